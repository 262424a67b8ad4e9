package conf_test

import (
	"fmt"
	"maps"
	"slices"
	"strings"
	"testing"

	"belvedere/api"
	"belvedere/civil"
	"belvedere/conf"
	"belvedere/period"
	"belvedere/rule"
)

// The example of the chapter.
func TestExample(t *testing.T) {
	isSame(t, loadText(t, "define host {\n  id a\n}\n"), conf.Conf{Objects: []conf.Object{plainObject("a")}})
}

// CF1: of no blocks, or of none that is registered, nothing is set up.
func TestNothing(t *testing.T) {
	isSame(t, loadText(t, ""), conf.Conf{})
	isSame(t, loadText(t, "# nothing\n\n; at all"), conf.Conf{})
	isSame(t, load(t, "host|register 0|id a", "none|register 0|foo 1", "service|register 0"), conf.Conf{})
}

// CF1: the errors of layer 9 (and of layer 8), with their lines, also behind what is wrong by this layer.
func TestErrorsOfBlocks(t *testing.T) {
	isWrongText(t, strings.Repeat("\n", api.MaxText+1), 0, api.ErrLong)
	isWrongText(t, "\ndefine host {\n  id "+strings.Repeat("a", api.MaxLine)+"\n}\n", 3, api.ErrLong)
	isWrongText(t, "define none {\n}\nhost a\n", 3, api.ErrForm)
	isWrongText(t, "define none {\n}\ndefine Host {\n}\n", 3, api.ErrName)
	isWrongText(t, "define none {\n  a 1\n  b 2\n  a 3\n}\n", 4, api.ErrTwice)
	isWrongText(t, "define none {\n}\ndefine host {\n  id a\n", 3, api.ErrEnd)
	isWrongText(t, strings.Repeat("define none {\n}\n", api.MaxObjects)+"define host {\n", 2*api.MaxObjects+1, api.ErrFull)
	fields := "define none {\n"
	for i := range 65 {
		fields += fmt.Sprintf("f%d\n", i)
	}
	isWrongText(t, fields+"}\n", 66, api.ErrFull)
}

// CF1: the errors of layer 11, with their lines, also behind what is wrong by this layer.
func TestErrorsOfTemplates(t *testing.T) {
	isWrong(t, api.ErrName, "none", "host|name a b!")
	isWrong(t, api.ErrTwice, "none", "host|name a", "host|name a!|id")
	isWrong(t, api.ErrForm, "none", "host|register no!")
	isWrong(t, api.ErrNeed, "none", "host|use!")
	isWrong(t, api.ErrNone, "none", "host|use a!|id")
	isWrong(t, api.ErrLoop, "none", "host|name a|use a!")
	long := strings.Repeat("a", api.MaxLine-len("contacts +"))
	isWrong(t, api.ErrLong, "none", "host|name a|id a|contacts "+long, "host!|use a|contacts +"+long)
}

// CF1: templates are resolved; places are those of the templates' fields.
func TestTemplates(t *testing.T) {
	c := load(t,
		"contact|id a", "contact|id b",
		"host|name t|register 0|max 7|contacts a|notify 0",
		"host|use t|id a|contacts +b", "host|use t|id b|max null", "host|id null|register 0",
	)
	a, b := plainObject("a"), plainObject("b")
	a.Max, a.Contacts, a.Notify = 7, []int{0, 1}, false
	b.Contacts, b.Notify = []int{0}, false
	isSame(t, conf.Conf{Objects: c.Objects}, conf.Conf{Objects: []conf.Object{a, b}})

	isWrong(t, api.ErrRange, "host|name t|register 0|max 0!", "host|use t|id a")
	isWrong(t, api.ErrKind, "host|name t|register 0|foo 0!", "host|use t|id a")
	isWrong(t, api.ErrTwice, "host|name t|register 0|id a!", "host|use t", "host|use t")
	isWrong(t, api.ErrNone, "host|name t|register 0|parents b!", "host|use t|id a")
	isWrong(t, api.ErrNeed, "host|name t|register 0|id a", "host!|use t|id null")
	load(t, "host|name t|register 0|foo 0|max 0|parents b", "host|use t|id a|foo null|max null|parents null")
}

// CF1: a kind that is none, at the block.
func TestNoKinds(t *testing.T) {
	for _, kind := range []string{"none", "hosts", "time_period", "object", "template", "servicegroup", "0", "id", "define", "null"} {
		isWrong(t, api.ErrKind, kind+mark)
		isWrong(t, api.ErrKind, kind+mark+"|id", "host|id a")
		isWrong(t, api.ErrKind, withGround(kind+mark+"|id x|on a|of a")...)
		load(t, "host|id a", kind+"|register 0|id")
	}
}

// CF1: a field that its kind has not, also one that only another kind has, at the field.
func TestForeignFields(t *testing.T) {
	names := map[string]int{"none": 0, "entry": 0, "entry_": 0, "entry_0": 0, "entry_10": 0, "entry_01": 0, "entry_a": 0, "ids": 0, "null": 0, "host": 0}
	for _, kind := range kinds {
		for _, name := range namesOf(kind) {
			names[name]++
		}
	}
	for _, kind := range kinds {
		own := namesOf(kind)
		for name := range names {
			if !slices.Contains(own, name) {
				isWrong(t, api.ErrKind, withGround(least(kind, "", name+" a!"))...)
				isWrong(t, api.ErrKind, withGround(least(kind, "", name+mark))...)
				load(t, withGround(least(kind, "", name+" null"))...)
			}
		}
	}
}

// wrongs are values that a field can't have, by what it says, each with the error.
func wrongs(sort string) map[string]api.Errno {
	list := map[string]api.Errno{"": api.ErrNeed, ",": api.ErrForm, "a,": api.ErrForm, ",a": api.ErrForm, "a,,b": api.ErrForm, "a,a": api.ErrTwice, "b, c,\tb": api.ErrTwice}
	number := map[string]api.Errno{"": api.ErrNeed, "x": api.ErrForm, "01": api.ErrForm, "+": api.ErrNeed, "1 ": 0, "1.0": api.ErrForm, "-1": api.ErrRange, "1,2": api.ErrForm, "9223372036854775808": api.ErrRange, "10000000000000000000": api.ErrForm}
	with := func(more, but map[string]api.Errno) map[string]api.Errno {
		all := map[string]api.Errno{}
		maps.Copy(all, but)
		maps.Copy(all, more)
		maps.DeleteFunc(all, func(_ string, wrong api.Errno) bool { return wrong == 0 })
		return all
	}
	switch sort {
	case "id":
		return with(map[string]api.Errno{"": api.ErrName, "a b": api.ErrName, "a/b": api.ErrName, "a,b": api.ErrName, "é": api.ErrName, "$": api.ErrName, longest + "x": api.ErrName}, nil)
	case "flag":
		return with(map[string]api.Errno{"2": api.ErrForm, "-1": api.ErrForm, "yes": api.ErrForm, "00": api.ErrForm, "9223372036854775808": api.ErrForm}, number)
	case "options":
		return with(map[string]api.Errno{"o": api.ErrForm, "W": api.ErrForm, "wu": api.ErrForm, "w,n": api.ErrForm, "n,w": api.ErrForm, "a": api.ErrForm, "a,,b": api.ErrForm, "a,a": api.ErrTwice, "w,w": api.ErrTwice, "w,u,c,r,f,s,x": api.ErrForm, "63": api.ErrForm}, list)
	case "states":
		return with(map[string]api.Errno{"r": api.ErrForm, "f": api.ErrForm, "s": api.ErrForm, "d": api.ErrForm, "o,n": api.ErrForm, "ow": api.ErrForm, "c,c": api.ErrTwice, "15": api.ErrForm}, list)
	case "attempts":
		return with(map[string]api.Errno{"0": api.ErrRange, "101": api.ErrRange}, number)
	case "percent":
		return with(map[string]api.Errno{"101": api.ErrRange, "50%": api.ErrForm}, number)
	case "first":
		return with(map[string]api.Errno{"0": api.ErrRange, "1001": api.ErrRange}, number)
	case "last":
		return with(map[string]api.Errno{"1001": api.ErrRange}, number)
	case "seconds":
		return with(map[string]api.Errno{"10000001": api.ErrRange, "10000001d": api.ErrRange, "5x": api.ErrForm, "m": api.ErrNeed, "5mm": api.ErrForm, "5 m": api.ErrForm, "-1s": api.ErrRange}, number)
	case "some":
		return with(map[string]api.Errno{"0": api.ErrRange, "0s": api.ErrRange, "0d": api.ErrRange}, wrongs("seconds"))
	case "period", "object":
		return with(map[string]api.Errno{"a,b": api.ErrForm, "a, b,c": api.ErrForm}, list)
	case "entry":
		return wrongEntries
	default:
		return list
	}
}

// wrongEntries are no entries.
var wrongEntries = map[string]api.Errno{
	// Without =, or a rule.
	"": api.ErrForm, "weekday 1": api.ErrForm, "09:00-17:00": api.ErrForm, "weekday 1 09:00-17:00": api.ErrForm,
	"=": api.ErrForm, "= 09:00-17:00": api.ErrForm, "weekday 7 = 09:00-17:00": api.ErrForm, "weekday = 09:00-17:00": api.ErrForm,
	"weekday 1 2 = 09:00-17:00": api.ErrForm, "weekday  1 = 09:00-17:00": api.ErrForm, "Weekday 1 = 09:00-17:00": api.ErrForm,
	"day 13 1 = 09:00-17:00": api.ErrForm, "nth 5 0 1 = 09:00-17:00": api.ErrForm, "dates 2020-1-2 2020-1-1 = 09:00-17:00": api.ErrForm,
	"weekday 7 = 17:00-09:00": api.ErrForm, "weekday 7 =": api.ErrForm, "+ weekday 1 = 09:00-17:00": api.ErrForm,
	// With spans that are none.
	"weekday 1 = 09:00": api.ErrForm, "weekday 1 = 9:00-17:00": api.ErrForm, "weekday 1 = 09:00-17:0": api.ErrForm,
	"weekday 1 = 09:00 - 17:00": api.ErrForm, "weekday 1 = 09:00-24:01": api.ErrForm, "weekday 1 = 09:60-17:00": api.ErrForm,
	"weekday 1 = 09:00_17:00": api.ErrForm, "weekday 1 = 09:00-17:00-18:00": api.ErrForm, "weekday 1 = 09-00-17:00": api.ErrForm,
	"weekday 1 == 09:00-17:00": api.ErrForm, "weekday 1 = a": api.ErrForm, "weekday 1 = 09:00-17:00 10:00-11:00": api.ErrForm,
	"weekday 1 = 09:00:00-17:00": api.ErrForm, "weekday 1 = 09:00:00-17:00:00": api.ErrForm, "weekday 1 = -09:00-17:0": api.ErrForm,
	"weekday 1 = 09:00-17:00,": api.ErrForm, "weekday 1 = ,09:00-17:00": api.ErrForm, "weekday 1 = 09:00-17:00,17:00": api.ErrForm,
	// With spans that don't go up.
	"weekday 1 = 17:00-09:00": api.ErrArg, "weekday 1 = 09:00-09:00": api.ErrArg, "weekday 1 = 24:00-24:00": api.ErrArg, "weekday 1 = 24:00-00:00": api.ErrArg,
	"weekday 1 = 09:00-10:00,12:00-11:00": api.ErrArg,
	// Span by span.
	"weekday 1 = 12:00-11:00,9-10": api.ErrArg, "weekday 1 = 9-10,12:00-11:00": api.ErrForm,
	// What layer 10 says of the list.
	"weekday 1 =": api.ErrNeed, "weekday 1 = 09:00-10:00,09:00-10:00": api.ErrTwice,
}

// CF1: a value that is not as told, at its field, of each field of each kind.
func TestWrongValues(t *testing.T) {
	for _, kind := range kinds {
		for name, sort := range sortsOf(kind) {
			for value, wrong := range wrongs(sort) {
				isWrong(t, wrong, withGround(least(kind, name, name+" "+value+mark))...)
			}
		}
	}
}

// CF1: values that are as told, at their bounds.
func TestRightValues(t *testing.T) {
	rights := map[string][]string{
		"id":       {"y", longest, "A-b.c_9", "n", "name", "use", "-", "0", "+y"},
		"flag":     {"0", "1"},
		"options":  {"n", "w", "s,f,r,c,u,w", "w , u", "r\t,c"},
		"states":   {"n", "o", "u,c,w,o"},
		"attempts": {"1", "100"}, "percent": {"0", "20", "100"}, "first": {"1", "1000"}, "last": {"0", "1", "1000"},
		"seconds": {"0", "0m", "10000000", "10000000d", "1s", "5m"}, "some": {"1", "1s", "1d", "10000000d"},
		"period": {"a", "c"}, "periods": {"a", "c,b,a", "a , b"}, "contacts": {"a", "c,b,a"}, "contactgroups": {"a", "c,b,a"},
		"hosts": {"a", "c,b,a"}, "hostgroups": {"a", "c,b,a"}, "object": {"c", "a/s"}, "objects": {"c", "c,b", "c,a/s"},
		"entry": {"weekday 1 = 09:00-17:00", "nth 5 -1 1=00:00-24:00", "day 0 31 \t = 00:00-00:01 , 23:59-24:00", "dates 0-1-1 9999-12-31 = 09:00-17:00,08:00-18:00", "weekday 1\r=09:00-17:00"},
	}
	for _, kind := range kinds {
		for name, sort := range sortsOf(kind) {
			if len(rights[sort]) == 0 {
				t.Fatalf("no values for %q", sort)
			}
			for _, value := range rights[sort] {
				b := least(kind, name, name+" "+value)
				switch name {
				case "flap_low":
					b += "|flap_high 100"
				case "flap_high":
					b += "|flap_low 0"
				}
				load(t, withGround(b)...)
			}
		}
	}
}

// CF1: the fields of a block are looked at as they stand by their names, not by their lines.
func TestFieldsByTheirNames(t *testing.T) {
	isWrong(t, api.ErrForm, "host|max x|active x!|id a")
	isWrong(t, api.ErrForm, "host|active x!|max x|id a")
	isWrong(t, api.ErrName, "host|max x|id a/b!")
	isWrong(t, api.ErrKind, "host|max x|foo 1!|id a")
	isWrong(t, api.ErrRange, "host|zoo 1|max 0!|id a")
	isWrong(t, api.ErrKind, "host|z 1|y 2|x 3!|id a")
	isWrong(t, api.ErrKind, "host|_ 1|0 2!|id a")
	isWrong(t, api.ErrArg, "timeperiod|entry_2 x|entry_1 weekday 1 = 10:00-09:00!|id a")
	isWrong(t, api.ErrForm, "timeperiod|id|entry_9 x!")
	isWrong(t, api.ErrForm, "dependency|on a,b|of a,!")
	isWrong(t, api.ErrNeed, "escalation|renotify x|of!|last 0|first 1")
}

// CF1: what is needed, at the block, behind its fields.
func TestNeed(t *testing.T) {
	for _, kind := range []string{"timeperiod", "contact", "contactgroup", "hostgroup", "host", "service"} {
		isWrong(t, api.ErrNeed, withGround(kind+mark)...)
		isWrong(t, api.ErrNeed, withGround(kind+mark+strings.TrimPrefix(least(kind, "id"), kind))...)
		isWrong(t, api.ErrNeed, withGround(kind+mark+"|id null")...)
		isWrong(t, api.ErrKind, withGround(kind+"|zoo 1!")...)
	}
	isWrong(t, api.ErrNeed, withGround("service!|hosts a|max 3")...)
	for _, b := range []string{"dependency!", "dependency!|on a", "dependency!|of a", "dependency!|on null|of a", "dependency!|of null|on a", "escalation!", "escalation!|first 2|contacts a", "escalation!|of null"} {
		isWrong(t, api.ErrNeed, withGround(b)...)
	}
	isWrong(t, api.ErrForm, withGround("dependency|on a|notification x!")...)
	isWrong(t, api.ErrRange, withGround("escalation|renotify -1!")...)
	isWrong(t, api.ErrNeed, "host!|flap_low 90|flap_high 10")
	isWrong(t, api.ErrNeed, "escalation!|first 2|last 1")
}

// CF1: bounds that cross, at the block, behind its fields; also where only one of the two is there.
func TestBounds(t *testing.T) {
	for _, kind := range []string{"host|id x", "service|id x|hosts b"} {
		for _, fields := range []string{"|flap_low 31|flap_high 30", "|flap_low 31", "|flap_high 19", "|flap_low 100|flap_high 99", "|flap_low 1|flap_high 0", "|flap_low 100|flap_high 0"} {
			kind, own, _ := strings.Cut(kind, "|")
			isWrong(t, api.ErrRange, withGround(kind+mark+"|"+own+fields)...)
		}
		for _, fields := range []string{"|flap_low 30|flap_high 30", "|flap_low 30", "|flap_high 20", "|flap_low 0|flap_high 0", "|flap_low 100|flap_high 100", "|flap_low 0|flap_high 100"} {
			load(t, withGround(kind+fields)...)
		}
		isWrong(t, api.ErrForm, withGround(kind+"|flap_low 31|retry x!")...)
	}
	for _, fields := range []string{"|first 2|last 1", "|first 1000|last 999", "|first 1000|last 1", "|first 5|last 4"} {
		isWrong(t, api.ErrRange, withGround("escalation!|of a"+fields)...)
	}
	for _, fields := range []string{"|first 2|last 2", "|first 2", "|first 1000", "|first 1000|last 0", "|last 1", "|last 1000", "|last 0", "|first 1|last 1"} {
		load(t, withGround("escalation|of a"+fields)...)
	}
	isWrong(t, api.ErrForm, withGround("escalation|of a|first 2|last 1|renotify x!")...)
}

// CF1: the first look goes block by block, so that an earlier block's fault is told ahead of a later one's.
func TestBlockByBlock(t *testing.T) {
	faults := []struct {
		wrong api.Errno
		block string
	}{
		{api.ErrKind, "none!"}, {api.ErrKind, "host|foo 1!|id x"}, {api.ErrRange, "host|max 0!|id x"}, {api.ErrNeed, "host!|max 1"},
		{api.ErrRange, "host!|id x|flap_low 31"}, {api.ErrForm, "timeperiod|id x|entry_1 x!"}, {api.ErrRange, "escalation!|of a|first 2|last 1"},
		{api.ErrName, "service|id a/b!|hosts a"},
	}
	for _, first := range faults {
		for _, second := range faults {
			behind := strings.ReplaceAll(second.block, mark, "")
			isWrong(t, first.wrong, withGround(first.block, behind)...)
			isWrong(t, first.wrong, slices.Concat([]string{first.block, behind}, ground)...)
		}
	}
}

// CF1: the first look is ahead of all others, wherever what is wrong stands.
func TestLooksInOrder(t *testing.T) {
	looks := [][]string{
		{"host|id x|max 0!"},
		{"contact|id x", "contact|id x!"},
		{"host|id y|parents none!"},
		{"contactgroup!|id y|groups y"},
		{"hostgroup!|id y|groups y"},
		{"timeperiod!|id y|exclude y"},
		{"host!|id z|parents z"},
		{"service!|id y"},
		{"escalation|of none!"},
		{"dependency!|on a|of a"},
	}
	wrong := []api.Errno{api.ErrRange, api.ErrTwice, api.ErrNone, api.ErrLoop, api.ErrLoop, api.ErrLoop, api.ErrLoop, api.ErrNeed, api.ErrNone, api.ErrLoop}
	for i, first := range looks {
		isWrong(t, wrong[i], withGround(first...)...)
		for _, second := range looks[i+1:] {
			var other []string
			for _, b := range second {
				other = append(other, strings.ReplaceAll(b, mark, ""))
			}
			isWrong(t, wrong[i], withGround(slices.Concat(first, other)...)...)
			isWrong(t, wrong[i], withGround(slices.Concat(other, first)...)...)
		}
	}
}

// CF1: an id that an earlier block of its kind has, at the id.
func TestTwice(t *testing.T) {
	for _, kind := range []string{"timeperiod", "contact", "contactgroup", "hostgroup", "host"} {
		isWrong(t, api.ErrTwice, kind+"|id x", kind+"|id x!")
		isWrong(t, api.ErrTwice, kind+"|id x", kind+"|id y", kind+"|id z", kind+"|id y!", kind+"|id x")
		isWrong(t, api.ErrTwice, kind+"|id x", kind+"|id x!", kind+"|id x")
		load(t, kind+"|id x", kind+"|id X", kind+"|id xx", kind+"|id x-", kind+"|register 0|id x")
	}
	load(t, "timeperiod|id x", "contact|id x", "contactgroup|id x", "hostgroup|id x", "host|id x", "service|id x|hosts x")
	isWrong(t, api.ErrTwice, "host|id x", "contact|id x", "contact|id x!", "host|id x")
	// Of services only what comes of them may not be there twice.
	c := load(t, "host|id a", "host|id b", "service|id x|hosts a", "service|id x|hosts b")
	if objectNames(c) != "a b a/x b/x" {
		t.Errorf("services: %s", objectNames(c))
	}
}

// CF1: a field that names what there is not, at the field; of each field of each kind.
func TestNone(t *testing.T) {
	for _, kind := range kinds {
		for name, sort := range sortsOf(kind) {
			switch sort {
			case "period":
				isWrong(t, api.ErrNone, withGround(least(kind, name, name+" none!"))...)
			case "periods", "contacts", "contactgroups", "hosts", "hostgroups":
				for _, list := range []string{"none", "a,none", "none,a", "A", "a,b,d", "a/s", "a b", "n"} {
					isWrong(t, api.ErrNone, withGround(least(kind, name, name+" "+list+mark))...)
				}
			case "object", "objects":
			default:
				continue
			}
			isWrong(t, api.ErrNone, withGround(least(kind, name, name+" x/x!"))...)
			// What is there by another kind alone is not there.
			load(t, withGround(least(kind, name, name+" c"))...)
		}
	}
}

// CF1: what only another kind has is not there.
func TestNoneOfItsKind(t *testing.T) {
	named := map[string]string{"period": "timeperiod", "periods": "timeperiod", "contacts": "contact", "contactgroups": "contactgroup", "hosts": "host", "hostgroups": "hostgroup", "object": "host", "objects": "host"}
	all := []string{"timeperiod", "contact", "contactgroup", "hostgroup", "host"}
	for _, kind := range kinds {
		for name, sort := range sortsOf(kind) {
			own, names := named[sort]
			if !names {
				continue
			}
			blocks := slices.Clone(ground)
			for _, other := range all {
				if other != own {
					blocks = append(blocks, other+"|id q")
				}
			}
			b := least(kind, name, name+" q")
			isWrong(t, api.ErrNone, append(slices.Clone(blocks), b+mark)...)
			load(t, append(slices.Clone(blocks), own+"|id q", b)...)
			load(t, append(slices.Clone(blocks), b, own+"|id q")...)
			isWrong(t, api.ErrNone, append(slices.Clone(blocks), own+"|id q|register 0", b+mark)...)
		}
	}
}

// CF1: ErrNone goes block by block, and of a block by the fields' names.
func TestNoneInOrder(t *testing.T) {
	isWrong(t, api.ErrNone, "contact|id x|period none!|options w", "host|id a|parents none")
	isWrong(t, api.ErrNone, "host|id a|parents none!", "contact|id x|period none")
	isWrong(t, api.ErrNone, "host|id a|parents none|groups none!|notify_period none")
	isWrong(t, api.ErrNone, "host|id a|parents none|contacts none|contact_groups none!")
	isWrong(t, api.ErrNone, "service|id a|hosts none|host_groups none|check_period none!")
	isWrong(t, api.ErrNone, "service|id a|hosts none|host_groups none!")
}

// CF1: ErrTwice is ahead of ErrNone, wherever they stand.
func TestTwiceAheadOfNone(t *testing.T) {
	for _, kind := range []string{"timeperiod", "contact", "contactgroup", "hostgroup", "host"} {
		isWrong(t, api.ErrTwice, "contact|id a|period none", kind+"|id x", kind+"|id x!")
		isWrong(t, api.ErrTwice, kind+"|id x", kind+"|id x!", "contact|id a|period none")
	}
	isWrong(t, api.ErrTwice, "host|id x", "host|parents none|id x!")
}

// ring are blocks of a kind, each of which names the next one, and the last one the first.
func ring(kind, field string, ids ...string) []string {
	var blocks []string
	for i, id := range ids {
		blocks = append(blocks, kind+"|id "+id+"|"+field+" "+ids[(i+1)%len(ids)])
	}
	return blocks
}

// CF1: loops of each kind, of one and of several, at the first block that leads back to itself.
func TestLoops(t *testing.T) {
	for _, of := range []struct{ kind, field string }{{"contactgroup", "groups"}, {"hostgroup", "groups"}, {"timeperiod", "exclude"}, {"host", "parents"}} {
		for _, ids := range [][]string{{"x"}, {"x", "y"}, {"z", "y", "x"}, {"x", "y", "z", "v"}} {
			loop := ring(of.kind, of.field, ids...)
			loop[0] = of.kind + mark + strings.TrimPrefix(loop[0], of.kind)
			isWrong(t, api.ErrLoop, withGround(loop...)...)
			isWrong(t, api.ErrLoop, slices.Concat(loop, ground)...)
			// What only leads to a loop is on none; so is what a loop leads to.
			ahead := of.kind + "|id ahead|" + of.field + " " + ids[0] + ",end"
			end := of.kind + "|id end"
			isWrong(t, api.ErrLoop, slices.Concat([]string{ahead, end}, loop)...)
			isWrong(t, api.ErrLoop, slices.Concat([]string{end, ahead}, loop)...)
			// Of two loops the one whose first block is first.
			isWrong(t, api.ErrLoop, slices.Concat(loop, ring(of.kind, of.field, "p", "q"))...)
		}
		// No loops: what meets again, and a line.
		load(t, of.kind+"|id x|"+of.field+" y,z", of.kind+"|id y|"+of.field+" z", of.kind+"|id z")
		load(t, of.kind+"|id z", of.kind+"|id y|"+of.field+" z", of.kind+"|id x|"+of.field+" y,z")
	}
	isWrong(t, api.ErrLoop, "contactgroup|id w", "contactgroup!|id x|groups w,y", "contactgroup|id y|groups x")
	// Members and what is a member of a group are on no way from group to group.
	load(t, "contactgroup|id a|members b", "contact|id b|groups a", "hostgroup|id b|members b", "host|id b|groups b")
}

// CF1: loops are told kind by kind, in this order, wherever they stand.
func TestLoopsInOrder(t *testing.T) {
	loops := []string{"contactgroup!|id x|groups x", "hostgroup!|id x|groups x", "timeperiod!|id x|exclude x", "host!|id x|parents x"}
	for i, first := range loops {
		for _, second := range loops[i+1:] {
			second = strings.ReplaceAll(second, mark, "")
			isWrong(t, api.ErrLoop, first, second)
			isWrong(t, api.ErrLoop, second, first)
			// ErrNone is ahead of ErrLoop.
			isWrong(t, api.ErrNone, strings.ReplaceAll(first, mark, ""), second, "contact|id a|period none!")
			isWrong(t, api.ErrNone, "contact|id a|period none!", strings.ReplaceAll(first, mark, ""), second)
		}
	}
}

// CF1: a service is one of each of its hosts, by all ways once, ascending, behind all hosts.
func TestServices(t *testing.T) {
	hosts := []string{"host|id c", "host|id a|groups g", "host|id b", "host|id d|groups h"}
	groups := []string{"hostgroup|id g|members c", "hostgroup|id h|groups g", "hostgroup|id i|members b|groups h", "hostgroup|id none"}
	for fields, want := range map[string]string{
		"hosts a":                               "a",
		"hosts b,c":                             "c b",
		"hosts d,b,a,c":                         "c a b d",
		"host_groups g":                         "c a",
		"host_groups h":                         "c a d",
		"host_groups i":                         "c a b d",
		"host_groups g,i,h":                     "c a b d",
		"hosts a|host_groups g":                 "c a",
		"hosts b|host_groups none,g":            "c a b",
		"hosts d,c|host_groups none":            "c d",
		"hosts d,c|host_groups none|max 4":      "c d",
		"hosts a,b,c,d|host_groups g,h,i,none":  "c a b d",
		"host_groups null|hosts b":              "b",
		"hosts null|host_groups none,h|retry 5": "c a d",
	} {
		for _, blocks := range [][]string{
			slices.Concat(hosts, groups, []string{"service|id s|" + fields}),
			slices.Concat([]string{"service|id s|" + fields}, groups, hosts),
		} {
			c := load(t, blocks...)
			names := []string{"c", "a", "b", "d"}
			for name := range strings.FieldsSeq(want) {
				names = append(names, name+"/s")
			}
			if got := objectNames(c); got != strings.Join(names, " ") {
				t.Errorf("%q: %s, not %s", blocks, got, names)
			}
			for i, o := range c.Objects {
				host, _, is := strings.Cut(o.Name, "/")
				place, _ := c.Find(host)
				if is && (o.Host != place || i < 4) || !is && (o.Host != -1 || i >= 4) || len(o.Parents) > 0 {
					t.Errorf("%q: %+v at %d", blocks, o, i)
				}
			}
		}
	}
}

// CF1: services stand block by block.
func TestServicesInOrder(t *testing.T) {
	c := load(t, "service|id z|hosts b,a", "host|id a|parents b", "service|id y|hosts b", "host|id b", "service|id x|hosts b,a", "service|id y|hosts a")
	if got := objectNames(c); got != "a b a/z b/z b/y a/x b/x a/y" {
		t.Errorf("%s", got)
	}
}

// CF1: a service of no hosts, or whose name is there by an earlier block, at the block.
func TestWrongServices(t *testing.T) {
	isWrong(t, api.ErrNeed, withGround("service!|id x")...)
	isWrong(t, api.ErrNeed, withGround("service!|id x|host_groups a")...)
	isWrong(t, api.ErrNeed, withGround("service!|id x|host_groups a,b,c|hosts null")...)
	isWrong(t, api.ErrNeed, withGround("service|id y|hosts a", "service!|id x|max 2", "service|id z")...)
	isWrong(t, api.ErrTwice, withGround("service!|id s|hosts a")...)
	isWrong(t, api.ErrTwice, withGround("service!|id s|hosts c,a,b")...)
	isWrong(t, api.ErrTwice, "host|id a", "host|id b", "hostgroup|id g|members a,b", "service|id x|hosts b", "service|id y|hosts b,a", "service!|id x|host_groups g", "service|id y|hosts a")
	isWrong(t, api.ErrTwice, withGround("service!|id s|hosts a", "service|id x")...)
	isWrong(t, api.ErrNeed, withGround("service!|id x", "service|id s|hosts a")...)
	load(t, withGround("service|id s|hosts b,c", "service|id S|hosts a", "service|id a|hosts a,b")...)
}

// CF1: just as many objects as there may be, and one more.
func TestMostObjects(t *testing.T) {
	var hosts []string
	for i := range 512 {
		hosts = append(hosts, "host|use t|id "+short(i))
	}
	template := "host|name t|register 0|groups g"
	c := load(t, slices.Concat([]string{template, "hostgroup|id g"}, hosts, []string{"service|id s|host_groups g"})...)
	if len(c.Objects) != api.MaxObjects || c.Objects[1023].Name != short(511)+"/s" || c.Objects[1023].Host != 511 {
		t.Errorf("%d objects, the last one %+v", len(c.Objects), c.Objects[len(c.Objects)-1])
	}
	isWrong(t, api.ErrFull, slices.Concat([]string{template, "hostgroup|id g"}, hosts, []string{"service|id s|host_groups g", "service!|id x|hosts " + short(3)})...)
	isWrong(t, api.ErrFull, slices.Concat([]string{template, "hostgroup|id g"}, hosts, []string{"service|id x|hosts " + short(3), "service!|id s|host_groups g", "service|id y"})...)
	// ErrNeed and ErrTwice are ahead of it.
	isWrong(t, api.ErrTwice, slices.Concat([]string{template, "hostgroup|id g"}, hosts, []string{"service|id s|host_groups g", "service!|id s|hosts " + short(3)})...)
	isWrong(t, api.ErrNeed, slices.Concat([]string{template, "hostgroup|id g"}, hosts, []string{"service|id s|host_groups g", "service!|id s"})...)
	// As many blocks as there may be, of hosts alone.
	hosts = nil
	for i := range api.MaxObjects {
		hosts = append(hosts, "host|id "+short(i))
	}
	if c := load(t, hosts...); len(c.Objects) != api.MaxObjects {
		t.Errorf("%d objects", len(c.Objects))
	}
	isWrong(t, api.ErrFull, slices.Concat(hosts[:api.MaxObjects-1], []string{"service!|id s|hosts aa,ab"})...)
	load(t, slices.Concat(hosts[:api.MaxObjects-1], []string{"service|id s|hosts ab"})...)
}

// deps are dependencies as a text, by the objects' names.
func deps(c conf.Conf) string {
	var l []string
	for _, d := range c.Deps {
		l = append(l, fmt.Sprint(c.Objects[d.On].Name, ">", c.Objects[d.Of].Name, ":", d.Execution, ":", d.Notification))
	}
	return strings.Join(l, " ")
}

// CF1: a dependency is one for each object of its `of`, in its order, block by block.
func TestDeps(t *testing.T) {
	c := load(t,
		"dependency|on h|of b/s,a,b|execution c,u|notification w", "dependency|of h|on a/s",
		"host|id a", "host|id b", "host|id h", "service|id s|hosts a,b", "dependency|on b|of a|notification n|execution o,w,c,u", "dependency|on h|of a",
	)
	if got, want := deps(c), "h>b/s:12:2 h>a:12:2 h>b:12:2 a/s>h:0:0 b>a:15:0 h>a:0:0"; got != want {
		t.Errorf("%s, not %s", got, want)
	}
}

// CF1: an escalation is one for each object of its `of`, in its order, block by block.
func TestEscs(t *testing.T) {
	c := load(t,
		"escalation|of b/s,a|first 3|last 9|contacts y,x|renotify 2m", "escalation|of b",
		"host|id a", "host|id b", "service|id s|hosts a,b", "contact|id x", "contact|id y|groups g", "contactgroup|id g", "contact|id z|groups g",
		"escalation|of a|contact_groups g|contacts z|first 1000|renotify 0",
	)
	want := []conf.Esc{
		{Of: 3, First: 3, Last: 9, Contacts: []int{0, 1}, Renotify: 120}, {Of: 0, First: 3, Last: 9, Contacts: []int{0, 1}, Renotify: 120},
		{Of: 1, First: 1, Last: 0, Renotify: 3600}, {Of: 0, First: 1000, Contacts: []int{1, 2}, Renotify: 0},
	}
	isSame(t, conf.Conf{Escs: c.Escs}, conf.Conf{Escs: want})
}

// CF1: `on` or `of` that names no object, at the field.
func TestNoObjects(t *testing.T) {
	for _, name := range []string{"none", "b/s", "a/x", "a/", "/s", "s", "a/s/s", "/", "a/S", "A", "a b"} {
		isWrong(t, api.ErrNone, withGround("dependency|on "+name+"!|of b")...)
		isWrong(t, api.ErrNone, withGround("dependency|on b|of "+name+mark)...)
		isWrong(t, api.ErrNone, withGround("dependency|on b|of a/s,"+name+",c!")...)
		isWrong(t, api.ErrNone, withGround("escalation|of a,"+name+mark)...)
	}
	isWrong(t, api.ErrNone, withGround("dependency|on none|of none!")...)
	isWrong(t, api.ErrNone, withGround("escalation|of none!", "dependency|on a|of none")...)
	isWrong(t, api.ErrNone, withGround("dependency|on none!|of a", "escalation|of none")...)
	isWrong(t, api.ErrNone, withGround("dependency|on a|of a", "dependency|on b|of a", "escalation|of none!")...)
	isWrong(t, api.ErrNeed, withGround("escalation|of none", "service!|id x")...)
	load(t, withGround("dependency|on c|of a/s,b,a", "escalation|of a/s,a")...)
}

// CF1: dependencies that lead back, at the first one of whose objects one leads back to its `on`.
func TestLoopsOfDependencies(t *testing.T) {
	for _, blocks := range [][]string{
		{"dependency!|on a|of a"},
		{"dependency!|on a|of b,c,a"},
		{"dependency!|on a/s|of a/s"},
		{"dependency!|on a|of b", "dependency|on b|of a"},
		{"dependency|on c|of a", "dependency!|on a|of b", "dependency|on b|of a"},
		{"dependency|on a|of c", "dependency!|on a|of b", "dependency|on b|of a"},
		{"dependency!|on b|of c,a", "dependency|on a|of c,b"},
		{"dependency!|on a|of a/s", "dependency|on a/s|of c", "dependency|on c|of b", "dependency|on b|of a"},
		{"dependency|on a|of b,c", "dependency!|on c|of a/s", "dependency|on b|of c", "dependency|on a/s|of c"},
		{"dependency!|on a|of b,c", "dependency|on c|of b", "dependency|on c|of a"},
		{"dependency|on a|of b", "dependency|on a|of b", "dependency!|on c|of c", "dependency|on b|of b"},
		{"dependency!|on b|of b", "dependency|on a|of a"},
		{"dependency!|on c|of b", "dependency|on a|of a", "dependency|on b|of c"},
	} {
		isWrong(t, api.ErrLoop, withGround(blocks...)...)
	}
	load(t, withGround("dependency|on a|of b,c,a/s", "dependency|on b|of c,a/s", "dependency|on c|of a/s", "dependency|on a|of c")...)
	load(t, withGround("dependency|on c|of a/s", "dependency|on b|of c,a/s", "dependency|on a|of b,c,a/s")...)
	// A service doesn't depend on its host by itself, nor a host on its parents; nor do escalations lead anywhere.
	load(t, "host|id a", "host|id b|parents a", "service|id s|hosts a,b", "dependency|on a/s|of a", "dependency|on b|of a,b/s", "escalation|of b/s")
}

// CF1: layer 7's ErrLong, at line 0, behind all other looks.
func TestTooManyPeriods(t *testing.T) {
	var periods []string
	for i := range 64 {
		periods = append(periods, "timeperiod|id "+short(i))
	}
	load(t, periods...)
	full := append(slices.Clone(periods), "timeperiod|id x")
	isTooLong(t, full...)
	isWrong(t, api.ErrLoop, append(slices.Clone(full), "timeperiod!|id y|exclude y")...)
	isWrong(t, api.ErrNone, append(slices.Clone(full), "escalation|of none!")...)
	isWrong(t, api.ErrLoop, append(slices.Clone(full), "host|id a", "dependency!|on a|of a")...)
	isWrong(t, api.ErrNeed, append(slices.Clone(full), "service!|id a")...)
	var spans []string
	for i := range 33 {
		spans = append(spans, fmt.Sprintf("%02d:%02d-24:00", i/60, i%60))
	}
	entry := "timeperiod|id x|entry_3 weekday 1 = "
	load(t, entry+strings.Join(spans[:32], ","))
	isTooLong(t, entry+strings.Join(spans, ","))
	isTooLong(t, "timeperiod|id a", entry+strings.Join(spans, ","), "host|id a")
	load(t, append(slices.Clone(periods[:63]), "timeperiod|id x|exclude "+shorts(0, 63))...)
}

// isTooLong asks for ErrLong at line 0.
func isTooLong(t *testing.T, blocks ...string) {
	t.Helper()
	text, _ := lay(blocks...)
	isWrongText(t, text, 0, api.ErrLong)
}

// CF1: every field's value where it is there.
func TestAllFields(t *testing.T) {
	c := load(t,
		"timeperiod|id p|entry_9 nth 5 -1 1 = 09:00-17:00|entry_2 weekday 0=00:00-24:00|exclude r,q", "timeperiod|id q|exclude r", "timeperiod|id r|entry_5 dates 2020-1-31 2021-2-1 = 10:00-11:30 , 09:15-10:15|entry_1 day 0 -31 = 00:00-00:01",
		"contact|id x|period q|options w,c,s|enabled 0|groups g", "contact|id y|groups g|options n|period p|enabled 1",
		"contactgroup|id g", "contactgroup|id f|groups g|members z", "contact|id z",
		"hostgroup|id g|members a",
		"host|id a|parents c,b|groups g|check_period p|notify_period r|contacts z|contact_groups g|max 100|interval 1|retry 2m|timeout 3h|first_delay 4d|renotify 5s|options u,r,f|flap_low 7|flap_high 8|active 0|notify 0|flap 0",
		"host|id b", "host|id c|parents b|active 0", "host|id d|notify 0", "host|id e|flap 0",
		"service|id s|hosts c|host_groups g|check_period q|notify_period p|contacts y|contact_groups f|max 1|interval 10000000d|retry 10000000|timeout 0|first_delay 0m|renotify 0|options n|flap_low 0|flap_high 100|active 1|notify 1|flap 1",
	)
	at := func(h, m int) int { return h*3600 + m*60 }
	entry := func(r rule.Rule, spans ...period.Span) period.Entry { return period.Entry{Rule: r, Spans: spans} }
	want := conf.Conf{
		Names: []string{"p", "q", "r"},
		Periods: []period.Period{
			{Exclude: []int{2, 1}, Entries: []period.Entry{
				entry(rule.Rule{Kind: rule.Weekday}, period.Span{From: 0, To: api.Day}),
				entry(rule.Rule{Kind: rule.Nth, Month: 5, N: -1, Weekday: 1}, period.Span{From: at(9, 0), To: at(17, 0)}),
			}},
			{Exclude: []int{2}},
			{Entries: []period.Entry{
				entry(rule.Rule{Kind: rule.MonthDay, N: -31}, period.Span{From: 0, To: 60}),
				entry(rule.Rule{Kind: rule.Dates, From: civil.Date{Y: 2020, M: 1, D: 31}, To: civil.Date{Y: 2021, M: 2, D: 1}}, period.Span{From: at(10, 0), To: at(11, 30)}, period.Span{From: at(9, 15), To: at(10, 15)}),
			}},
		},
		Contacts: []conf.Contact{{Name: "x", Period: 1, Options: 1 | 4 | 32}, {Name: "y", Period: 0, Enabled: true}, {Name: "z", Period: noPeriod, Options: allOptions, Enabled: true}},
		Objects: []conf.Object{
			{Name: "a", Host: -1, Parents: []int{2, 1}, CheckPeriod: 0, NotifyPeriod: 2, Contacts: []int{0, 1, 2}, Max: 100, Interval: 1, Retry: 120, Timeout: 3 * 3600, FirstDelay: 4 * api.Day, Renotify: 5, Options: 2 | 8 | 16, FlapLow: 7, FlapHigh: 8},
			plainObject("b"), plainObject("c"), plainObject("d"), plainObject("e"),
		},
	}
	want.Objects[2].Parents, want.Objects[2].Active = []int{1}, false
	want.Objects[3].Notify, want.Objects[4].Flap = false, false
	for _, host := range []int{0, 2} {
		want.Objects = append(want.Objects, conf.Object{
			Name: want.Objects[host].Name + "/s", Host: host, CheckPeriod: 1, NotifyPeriod: 0, Contacts: []int{0, 1, 2}, Max: 1,
			Interval: 10_000_000 * api.Day, Retry: 10_000_000, FlapHigh: 100, Active: true, Notify: true, Flap: true,
		})
	}
	isSame(t, c, want)
}

// CF1: what holds where a field is not there, of each kind.
func TestDefaults(t *testing.T) {
	c := load(t, "timeperiod|id p", "contact|id x", "host|id a", "service|id s|hosts a", "dependency|on a|of a/s", "escalation|of a")
	s := plainObject("a/s")
	s.Host = 0
	isSame(t, c, conf.Conf{
		Names: []string{"p"}, Periods: []period.Period{{}}, Contacts: []conf.Contact{{Name: "x", Period: noPeriod, Options: allOptions, Enabled: true}},
		Objects: []conf.Object{plainObject("a"), s}, Deps: []conf.Dep{{On: 0, Of: 1}}, Escs: []conf.Esc{{Of: 0, First: 1, Last: 0, Renotify: 3600}},
	})
}

// CF1: tables are in the order of their blocks, whatever stands between.
func TestOrderOfTables(t *testing.T) {
	c := load(t, "host|id z", "contact|id z", "timeperiod|id z", "service|id s|hosts a,z", "host|id a", "timeperiod|id a", "contact|id a", "contact|id m", "host|id m", "timeperiod|id m")
	var contacts []string
	for _, one := range c.Contacts {
		contacts = append(contacts, one.Name)
	}
	if !slices.Equal(c.Names, []string{"z", "a", "m"}) || !slices.Equal(contacts, c.Names) || objectNames(c) != "z a m z/s a/s" || len(c.Periods) != 3 {
		t.Errorf("%+v", c)
	}
}

// CF1: contacts by name and by groups, ascending, each once.
func TestContacts(t *testing.T) {
	blocks := []string{
		"contact|id d", "contact|id a|groups g", "contact|id c", "contact|id b|groups h,g",
		"contactgroup|id g|members d", "contactgroup|id h|groups g", "contactgroup|id i|members c,a", "contactgroup|id none",
		"host|id x",
	}
	for fields, want := range map[string]string{
		"contacts a": "[1]", "contacts b,d": "[0 3]", "contacts b,c,a,d": "[0 1 2 3]", "contact_groups g": "[0 1 3]", "contact_groups h": "[0 1 3]",
		"contact_groups i": "[1 2]", "contact_groups i,h": "[0 1 2 3]", "contact_groups none": "[]", "contacts b|contact_groups i": "[1 2 3]",
		"contacts a|contact_groups none,i": "[1 2]", "contacts null": "[]",
	} {
		c := load(t, append(slices.Clone(blocks), "host|id y|"+fields, "service|id s|hosts x|"+fields, "escalation|of x|"+fields)...)
		for _, got := range [][]int{find(t, c, "y").Contacts, find(t, c, "x/s").Contacts, c.Escs[0].Contacts} {
			if fmt.Sprint(got) != want {
				t.Errorf("%s: %v, not %s", fields, got, want)
			}
		}
		if got := find(t, c, "x").Contacts; len(got) != 0 {
			t.Errorf("%s: x has %v", fields, got)
		}
	}
}

// Rule 3: what is answered shares no memory with another answer, nor within itself.
func TestLoadedIsNew(t *testing.T) {
	text, _ := lay(
		"timeperiod|id p|entry_1 weekday 1 = 09:00-10:00,11:00-12:00|exclude q", "timeperiod|id q", "contact|id x|groups g", "contact|id y|groups g", "contactgroup|id g",
		"host|id a|contact_groups g", "host|id b|parents a|contact_groups g", "host|id c|parents a,b|contacts x,y", "service|id s|hosts a,b,c|contact_groups g",
		"escalation|of a,b,c|contact_groups g", "escalation|of a/s|contact_groups g", "dependency|on a|of b,c",
	)
	first, second := loadText(t, text), loadText(t, text)
	want := tell(second)
	for _, list := range lists(&first) {
		before := tell(first)
		was := slices.Clone(*list)
		for i := range *list {
			(*list)[i] = -9
		}
		_ = append(*list, -9)
		if tell(second) != want {
			t.Fatalf("another answer was changed: %s", tell(second))
		}
		copy(*list, was)
		if tell(first) != before {
			t.Fatalf("by a list more is changed than itself: %s, not %s", tell(first), before)
		}
	}
	if got := tell(loadText(t, text)); got != want {
		t.Errorf("%s, not %s", got, want)
	}
	isApart(t, &first)
}

// lists are all lists of numbers in tables.
func lists(c *conf.Conf) []*[]int {
	var all []*[]int
	for i := range c.Periods {
		all = append(all, &c.Periods[i].Exclude)
	}
	for i := range c.Objects {
		all = append(all, &c.Objects[i].Parents, &c.Objects[i].Contacts)
	}
	for i := range c.Escs {
		all = append(all, &c.Escs[i].Contacts)
	}
	return all
}

// isApart asks for lists of which none shares memory, spare room too, with another one.
func isApart(t *testing.T, c *conf.Conf) {
	t.Helper()
	all := lists(c)
	for i, list := range all {
		whole := (*list)[:cap(*list)]
		for k := range whole {
			whole[k] = i
		}
	}
	for i, list := range all {
		for _, n := range (*list)[:cap(*list)] {
			if n != i {
				t.Fatalf("the list %d shares memory with the list %d", i, n)
			}
		}
	}
	for i := range c.Periods {
		for j := range c.Periods[i].Entries {
			spans := &c.Periods[i].Entries[j].Spans
			*spans = append(*spans, period.Span{From: 7, To: i*100 + j})
		}
	}
	for i := range c.Periods {
		for j, e := range c.Periods[i].Entries {
			if e.Spans[len(e.Spans)-1] != (period.Span{From: 7, To: i*100 + j}) {
				t.Fatalf("spans share memory")
			}
		}
	}
}

// As much as there may be of all is set up soon.
func TestMostOfAll(t *testing.T) {
	// 32 hosts and 31 services of each: 1024 objects; all other blocks depend, each object on those behind it.
	var blocks, names []string
	for i := range 32 {
		blocks = append(blocks, "host|id "+short(i)[1:])
		names = append(names, short(i)[1:])
	}
	for i := range 31 {
		blocks = append(blocks, "service|id "+short(i)[1:]+"|host_groups g")
	}
	blocks = append(blocks, "hostgroup|id g|members "+strings.Join(names, ","))
	for i := range 31 {
		for _, host := range names[:32] {
			names = append(names, host+"/"+short(i)[1:])
		}
	}
	of := strings.Join(names[33:], ",")
	blocks = append(blocks, "dependency|name t|register 0|of "+of)
	for len(blocks) < api.MaxObjects {
		blocks = append(blocks, "dependency|use t|on "+names[len(blocks)%32])
	}
	c := load(t, blocks...)
	if want := (api.MaxObjects - 65) * (api.MaxObjects - 33); len(c.Objects) != api.MaxObjects || len(c.Deps) != want {
		t.Errorf("%d objects, %d dependencies, not %d", len(c.Objects), len(c.Deps), want)
	}
	blocks[len(blocks)-1] = "dependency!|use t|on " + names[1000]
	isWrong(t, api.ErrLoop, blocks...)
}

// As many hosts and parents as there may be.
func TestMostParents(t *testing.T) {
	var blocks []string
	for i := range 1000 {
		b := "host|name " + short(i) + "|id " + short(i) + "|parents +" + short(i-1+1000*(1-min(i, 1)))
		if i > 0 {
			b += "|use " + short(i-1)
		} else {
			b = "host|name aa|id aa"
		}
		blocks = append(blocks, b)
	}
	c := load(t, blocks...)
	if got := c.Objects[999].Parents; len(got) != 999 || got[0] != 0 || got[998] != 998 {
		t.Errorf("%d parents", len(got))
	}
	blocks[0] += "|parents " + short(999)
	text, _ := lay(blocks...)
	isWrongText(t, text, 1, api.ErrLoop)
}
