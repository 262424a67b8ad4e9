package conf

import (
	"slices"

	"belvedere/api"
	"belvedere/period"
)

// laySingles lays timeperiods, contacts and hosts: one of each block.
func (s *setting) laySingles() (api.Place, error) {
	for _, p := range s.of(timeperiod) {
		s.conf.Names = append(s.conf.Names, p.id())
		s.conf.Periods = append(s.conf.Periods, period.Period{Entries: p.entries(), Exclude: s.placesOf(p, excludeField)})
	}
	for _, p := range s.of(contact) {
		s.conf.Contacts = append(s.conf.Contacts, Contact{
			Name: p.id(), Period: s.placeOf(p, periodField), Options: p.number(optionsField), Enabled: p.flag(enabledField),
		})
	}
	s.objects = names{}
	for _, p := range s.of(host) {
		o := s.objectOf(p, s.contactsOf(p))
		o.Name, o.Host, o.Parents = p.id(), none, s.placesOf(p, parentsField)
		s.lay(o)
	}
	return right()
}

// layServices lays the services: one of each block and host.
func (s *setting) layServices() (api.Place, error) {
	for _, p := range s.of(service) {
		if err := s.layService(p); err != nil {
			return wrong(p.at, err)
		}
	}
	return right()
}

// layService lays a service of each of its hosts.
func (s *setting) layService(p part) error {
	hosts := together(len(s.hosts), s.placesOf(p, hostsField), s.hostMembers, s.placesOf(p, hostGroupsField))
	nameAt := func(place int) string { return s.conf.Objects[place].Name + between + p.id() }
	isTaken := func(place int) bool {
		_, taken := s.objects[nameAt(place)]
		return taken
	}
	switch {
	case len(hosts) == 0:
		return api.ErrNeed
	case slices.ContainsFunc(hosts, isTaken):
		return api.ErrTwice
	case len(s.conf.Objects)+len(hosts) > api.MaxObjects:
		return api.ErrFull
	}
	contacts := s.contactsOf(p)
	for _, place := range hosts {
		o := s.objectOf(p, slices.Clone(contacts))
		o.Name, o.Host = nameAt(place), place
		s.lay(o)
	}
	return nil
}

// lay lays an object behind all others.
func (s *setting) lay(o Object) {
	s.objects[o.Name] = len(s.conf.Objects)
	s.conf.Objects = append(s.conf.Objects, o)
}

// objectOf is what a part says of an object of some contacts, but its name and hosts.
func (s *setting) objectOf(p part, contacts []int) Object {
	return Object{
		CheckPeriod:  s.placeOf(p, checkPeriodField),
		NotifyPeriod: s.placeOf(p, notifyPeriodField),
		Contacts:     contacts,
		Max:          p.number(maxField),
		Interval:     p.number(intervalField),
		Retry:        p.number(retryField),
		Timeout:      p.number(timeoutField),
		FirstDelay:   p.number(firstDelayField),
		Renotify:     p.number(renotifyField),
		Options:      p.number(optionsField),
		FlapLow:      p.number(flapLowField),
		FlapHigh:     p.number(flapHighField),
		Active:       p.flag(activeField),
		Notify:       p.flag(notifyField),
		Flap:         p.flag(flapField),
	}
}

// contactsOf are the contacts that a part names, and those of the groups that it names.
func (s *setting) contactsOf(p part) []int {
	return together(len(s.contacts), s.placesOf(p, contactsField), s.contactMembers, s.placesOf(p, contactGroupsField))
}

// together are those of n places that are listed, or members of groups that are, ascending, each once.
func together(n int, listed []int, members [][]int, groups []int) []int {
	are := make([]bool, n)
	for _, place := range listed {
		are[place] = true
	}
	for _, g := range groups {
		for _, place := range members[g] {
			are[place] = true
		}
	}
	var places []int
	for place, is := range are {
		if is {
			places = append(places, place)
		}
	}
	return places
}

// layDeps lays what dependencies say: one for each object that depends.
func (s *setting) layDeps() {
	for _, p := range s.of(dependency) {
		on, execution, notification := s.placeOf(p, onField), p.number(executionField), p.number(notificationField)
		for _, place := range s.placesOf(p, ofField) {
			s.conf.Deps = append(s.conf.Deps, Dep{On: on, Of: place, Execution: execution, Notification: notification})
		}
	}
}

// layEscs lays what escalations say: one for each object that has them.
func (s *setting) layEscs() {
	for _, p := range s.of(escalation) {
		first, last, renotify := p.number(firstField), p.number(lastField), p.number(renotifyField)
		contacts := s.contactsOf(p)
		for _, place := range s.placesOf(p, ofField) {
			s.conf.Escs = append(s.conf.Escs, Esc{Of: place, First: first, Last: last, Contacts: slices.Clone(contacts), Renotify: renotify})
		}
	}
}
