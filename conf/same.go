package conf

import (
	"slices"

	"belvedere/period"
)

// same tells whether two tables are the same; nil and empty lists are.
func same(a, b Conf) bool {
	return slices.Equal(a.Names, b.Names) &&
		slices.EqualFunc(a.Periods, b.Periods, samePeriod) &&
		slices.Equal(a.Contacts, b.Contacts) &&
		slices.EqualFunc(a.Objects, b.Objects, sameObject) &&
		slices.Equal(a.Deps, b.Deps) &&
		slices.EqualFunc(a.Escs, b.Escs, sameEsc)
}

// samePeriod tells whether two periods are the same.
func samePeriod(a, b period.Period) bool {
	return slices.EqualFunc(a.Entries, b.Entries, sameEntry) && slices.Equal(a.Exclude, b.Exclude)
}

// sameEntry tells whether two entries of periods are the same.
func sameEntry(a, b period.Entry) bool { return a.Rule == b.Rule && slices.Equal(a.Spans, b.Spans) }

// sameObject tells whether two objects are the same.
func sameObject(a, b Object) bool {
	return a.Name == b.Name && a.Host == b.Host &&
		slices.Equal(a.Parents, b.Parents) && slices.Equal(a.Contacts, b.Contacts) &&
		a.CheckPeriod == b.CheckPeriod && a.NotifyPeriod == b.NotifyPeriod &&
		a.Max == b.Max && a.Interval == b.Interval && a.Retry == b.Retry && a.Timeout == b.Timeout &&
		a.FirstDelay == b.FirstDelay && a.Renotify == b.Renotify && a.Options == b.Options &&
		a.FlapLow == b.FlapLow && a.FlapHigh == b.FlapHigh &&
		a.Active == b.Active && a.Notify == b.Notify && a.Flap == b.Flap
}

// sameEsc tells whether two escalations are the same.
func sameEsc(a, b Esc) bool {
	return a.Of == b.Of && a.First == b.First && a.Last == b.Last && slices.Equal(a.Contacts, b.Contacts) && a.Renotify == b.Renotify
}
