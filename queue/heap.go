package queue

import (
	"cmp"

	"belvedere/api"
)

// key is what there is one event of at most.
type key struct{ kind, id int }

// keyOf is the key of an event.
func keyOf(e Event) key { return key{e.Kind, e.ID} }

// isEvent tells whether an event may be.
func isEvent(e Event) bool {
	return e.At >= 0 && e.At <= api.MaxTime && e.Kind >= 0 && e.ID >= 0
}

// compare is below 0, if an event is due ahead of another one.
func compare(e, other Event) int {
	return cmp.Or(cmp.Compare(e.At, other.At), cmp.Compare(e.Kind, other.Kind), cmp.Compare(e.ID, other.ID))
}

// beneath are the places of the two events beneath one, if there are so many.
func beneath(place int) [2]int { return [2]int{2*place + 1, 2*place + 2} }

// above is the place of the event that one is beneath of.
func above(place int) int { return (place - 1) / 2 }

// isAhead tells whether the event of a place is due ahead of that of another one.
func (q *Queue) isAhead(place, other int) bool {
	return compare(q.events[place], q.events[other]) < 0
}

// swap lays two events, each in the other's place.
func (q *Queue) swap(one, other int) {
	q.events[one], q.events[other] = q.events[other], q.events[one]
	q.places[keyOf(q.events[one])] = one
	q.places[keyOf(q.events[other])] = other
}

// settle brings an event that is new in a place to where it belongs.
func (q *Queue) settle(place int) {
	// An event that rises leaves one behind that is ahead of all beneath: then nothing sinks.
	q.rise(place)
	q.sink(place)
}

// rise brings an event up past those behind which it isn't due.
func (q *Queue) rise(place int) {
	for place > 0 && q.isAhead(place, above(place)) {
		q.swap(place, above(place))
		place = above(place)
	}
}

// sink brings an event down past those that are due ahead of it.
func (q *Queue) sink(place int) {
	for next := q.foremost(place); next != place; next = q.foremost(place) {
		q.swap(place, next)
		place = next
	}
}

// foremost is the place of the event that is due first, of one and the two beneath it.
func (q *Queue) foremost(place int) int {
	first := place
	for _, under := range beneath(place) {
		if under < len(q.events) && q.isAhead(under, first) {
			first = under
		}
	}
	return first
}

// take takes the event of a place away; the last one comes into its place.
func (q *Queue) take(place int) {
	last := len(q.events) - 1
	q.swap(place, last)
	delete(q.places, keyOf(q.events[last]))
	q.events = q.events[:last]
	if place < last {
		q.settle(place)
	}
}
