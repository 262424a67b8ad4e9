package conf

import (
	"slices"

	"belvedere/api"
	"belvedere/block"
	"belvedere/period"
)

// part is a block, read.
type part struct {
	at   int
	kind string
	// fields stand by their names.
	fields []field
}

// readPart is a block, read; where it is wrong.
func readPart(b block.Block) (part, api.Place, error) {
	fields := fieldsOf(b.Kind)
	if len(fields) == 0 {
		return wrongPart(b.At, api.ErrKind)
	}
	p := part{at: b.At, kind: b.Kind}
	for _, f := range b.Fields {
		says, has := fields[f.Name]
		if !has {
			return wrongPart(f.At, api.ErrKind)
		}
		r, err := read(f, says)
		if err != nil {
			return wrongPart(f.At, err)
		}
		p.fields = append(p.fields, r)
	}
	if err := p.check(fields); err != nil {
		return wrongPart(b.At, err)
	}
	return p, api.Place{}, nil
}

// wrongPart is what there is of a block that is wrong.
func wrongPart(at int, err error) (part, api.Place, error) {
	place, err := wrong(at, err)
	return part{}, place, err
}

// check is an error, if a part, whose kind has some fields, lacks one that is needed, or has bounds that cross.
func (p part) check(fields map[string]int) error {
	for _, name := range [...]string{idField, onField, ofField} {
		_, can := fields[name]
		if _, has := p.find(name); can && !has {
			return api.ErrNeed
		}
	}
	// A kind without these fields has the numbers that hold otherwise, which don't cross.
	last := p.number(lastField)
	if p.number(flapLowField) > p.number(flapHighField) || last != 0 && last < p.number(firstField) {
		return api.ErrRange
	}
	return nil
}

// find is a part's field of a name, if there is one.
func (p part) find(name string) (field, bool) {
	i := slices.IndexFunc(p.fields, func(f field) bool { return f.name == name })
	if i < 0 {
		return field{}, false
	}
	return p.fields[i], true
}

// id is a part's id.
func (p part) id() string {
	f, _ := p.find(idField)
	return f.text
}

// names are those that a field lists.
func (p part) names(name string) []string {
	f, _ := p.find(name)
	return f.names
}

// number is what a field says as a number, or what holds otherwise.
func (p part) number(name string) int {
	f, has := p.find(name)
	if !has {
		return otherwise(name)
	}
	return f.number
}

// flag tells whether a field says so.
func (p part) flag(name string) bool { return p.number(name) == 1 }

// entries are those of a timeperiod.
func (p part) entries() []period.Entry {
	var entries []period.Entry
	for _, f := range p.fields {
		if f.says == saysEntry {
			entries = append(entries, f.entry)
		}
	}
	return entries
}
