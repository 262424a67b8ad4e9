package conf

import (
	"errors"

	"belvedere/api"
	"belvedere/block"
	"belvedere/graph"
	"belvedere/group"
	"belvedere/period"
)

// names are places, by the names that stand for them.
type names map[string]int

// setting is what blocks set up, and what is found out about them look by look.
type setting struct {
	blocks []block.Block
	parts  []part
	// periods and the others are where they stand; nil, as long as they are not found.
	periods, contacts, contactGroups, hosts, hostGroups, objects names
	// contactMembers and hostMembers are those of the groups, by their places.
	contactMembers, hostMembers [][]int
	conf                        Conf
}

// setUp is what resolved blocks set up; where they are wrong.
func setUp(blocks []block.Block) (Conf, api.Place, error) {
	s := &setting{blocks: blocks}
	looks := []func() (api.Place, error){
		s.lookAtBlocks, s.lookAtIDs, s.lookAtNames,
		s.expandContacts, s.expandHosts, s.lookAtExcludes, s.lookAtParents,
		s.laySingles, s.layServices,
		s.lookAtNames, s.lookAtDependencies, s.lookAtPeriods,
	}
	for _, look := range looks {
		if place, err := look(); err != nil {
			return Conf{}, place, err
		}
	}
	s.layDeps()
	s.layEscs()
	return s.conf, api.Place{}, nil
}

// wrong is an error, and its place.
func wrong(at int, err error) (api.Place, error) {
	var number api.Errno
	errors.As(err, &number)
	return api.Place{Line: at, Err: number}, err
}

// right is the place of no error.
func right() (api.Place, error) { return api.Place{}, nil }

// lookAtBlocks reads all blocks.
func (s *setting) lookAtBlocks() (api.Place, error) {
	for _, b := range s.blocks {
		p, place, err := readPart(b)
		if err != nil {
			return place, err
		}
		s.parts = append(s.parts, p)
	}
	return right()
}

// lookAtIDs takes the ids of what is found by them alone, as services are not.
func (s *setting) lookAtIDs() (api.Place, error) {
	s.periods, s.contacts, s.contactGroups, s.hosts, s.hostGroups = names{}, names{}, names{}, names{}, names{}
	for _, p := range s.parts {
		known := s.ofKind(p.kind)
		if known == nil {
			continue
		}
		f, _ := p.find(idField)
		if _, taken := known[f.text]; taken {
			return wrong(f.at, api.ErrTwice)
		}
		place := len(known)
		known[f.text] = place
	}
	return right()
}

// lookAtNames looks for names of what there is not. Fields that name objects are passed over, as
// long as these are not laid.
func (s *setting) lookAtNames() (api.Place, error) {
	for _, p := range s.parts {
	fields:
		for _, f := range p.fields {
			known := s.named(f.says)
			for _, name := range f.names {
				if known == nil {
					continue fields
				}
				if _, is := known[name]; !is {
					return wrong(f.at, api.ErrNone)
				}
			}
		}
	}
	return right()
}

// ofKind are those of a kind that are found by their ids; nil of other kinds.
func (s *setting) ofKind(kind string) names {
	switch kind {
	case timeperiod:
		return s.periods
	case contact:
		return s.contacts
	case contactgroup:
		return s.contactGroups
	case host:
		return s.hosts
	case hostgroup:
		return s.hostGroups
	default:
		return nil
	}
}

// named are those of which a field names some, if it names anything.
func (s *setting) named(says int) names {
	switch says {
	case saysPeriod, saysPeriods:
		return s.periods
	case saysContacts:
		return s.contacts
	case saysContactGroups:
		return s.contactGroups
	case saysHosts:
		return s.hosts
	case saysHostGroups:
		return s.hostGroups
	case saysObject, saysObjects:
		return s.objects
	default:
		return nil
	}
}

// of are the parts of a kind; each stands at its place.
func (s *setting) of(kind string) []part {
	var parts []part
	for _, p := range s.parts {
		if p.kind == kind {
			parts = append(parts, p)
		}
	}
	return parts
}

// placesOf are the places that a part's field names, in its order.
func (s *setting) placesOf(p part, name string) []int {
	f, _ := p.find(name)
	known := s.named(f.says)
	var places []int
	for _, one := range f.names {
		places = append(places, known[one])
	}
	return places
}

// placeOf is the place that a part's field names; none, if there is no such field.
func (s *setting) placeOf(p part, name string) int {
	places := s.placesOf(p, name)
	if len(places) == 0 {
		return none
	}
	return places[0]
}

// expandContacts finds the members of contactgroups, if none leads back to itself.
func (s *setting) expandContacts() (api.Place, error) {
	members, place, err := s.expand(contactgroup, contact)
	s.contactMembers = members
	return place, err
}

// expandHosts finds the members of hostgroups, if none leads back to itself.
func (s *setting) expandHosts() (api.Place, error) {
	members, place, err := s.expand(hostgroup, host)
	s.hostMembers = members
	return place, err
}

// expand are the members of all groups of a kind.
func (s *setting) expand(groupKind, itemKind string) ([][]int, api.Place, error) {
	var groups []group.Group
	parts := s.of(groupKind)
	for _, p := range parts {
		groups = append(groups, group.Group{Name: p.id(), Members: p.names(membersField), Groups: p.names(groupsField)})
	}
	var items []group.Item
	for _, p := range s.of(itemKind) {
		items = append(items, group.Item{Name: p.id(), Groups: p.names(groupsField)})
	}
	members, at, err := group.Expand(groups, items)
	if err != nil {
		// Sizes and names are right: so it is a group that leads back to itself.
		place, err := wrong(parts[at].at, err)
		return nil, place, err
	}
	return members, api.Place{}, nil
}

// lookAtExcludes looks for timeperiods that exclude themselves.
func (s *setting) lookAtExcludes() (api.Place, error) { return s.lookForLoop(timeperiod, excludeField) }

// lookAtParents looks for hosts that are their own parents.
func (s *setting) lookAtParents() (api.Place, error) { return s.lookForLoop(host, parentsField) }

// lookForLoop looks for the first part of a kind from which a field leads back to it.
func (s *setting) lookForLoop(kind, name string) (api.Place, error) {
	parts := s.of(kind)
	var ways [][2]int
	for i, p := range parts {
		for _, place := range s.placesOf(p, name) {
			ways = append(ways, [2]int{i, place})
		}
	}
	return loopOf(parts, len(parts), ways)
}

// loopOf is an error at the first part, by its place among some, from which ways lead back to it.
func loopOf(parts []part, n int, ways [][2]int) (api.Place, error) {
	at, is, err := graph.Loop(n, ways)
	switch {
	case err != nil:
		return wrong(0, err)
	case is:
		return wrong(parts[at].at, api.ErrLoop)
	default:
		return right()
	}
}

// lookAtDependencies looks for dependencies that lead back to themselves.
func (s *setting) lookAtDependencies() (api.Place, error) {
	parts := s.of(dependency)
	// Each dependency is a place of its own, ahead of all objects, between its `on` and its `of`: so
	// the least place that leads back to itself is that of the first dependency that does.
	objects := len(parts)
	var ways [][2]int
	for i, p := range parts {
		ways = append(ways, [2]int{objects + s.placeOf(p, onField), i})
		for _, place := range s.placesOf(p, ofField) {
			ways = append(ways, [2]int{i, objects + place})
		}
	}
	return loopOf(parts, objects+len(s.conf.Objects), ways)
}

// lookAtPeriods looks at how many there are of all that periods have.
func (s *setting) lookAtPeriods() (api.Place, error) {
	if err := period.Check(s.conf.Periods); err != nil {
		return wrong(0, err)
	}
	return right()
}
