package queue_test

import (
	"errors"
	"slices"
	"testing"

	"belvedere/api"
	"belvedere/queue"
)

const (
	mostEvents = 65536
	mostTime   = 4611686018427387904
)

// holds tells whether an error is just that number; of 0, whether there is none.
func holds(err error, want api.Errno) bool {
	if want == 0 {
		return err == nil
	}
	var got api.Errno
	return errors.As(err, &got) && got == want
}

// event is one of these.
func event(at, kind, id int) queue.Event { return queue.Event{At: at, Kind: kind, ID: id} }

// due tells how an event is due by the words: below 0, if it is ahead of another one, above, if behind.
func due(e, other queue.Event) int {
	ahead := func(e, other queue.Event) bool {
		if e.At != other.At {
			return e.At < other.At
		}
		if e.Kind != other.Kind {
			return e.Kind < other.Kind
		}
		return e.ID < other.ID
	}
	switch {
	case ahead(e, other):
		return -1
	case ahead(other, e):
		return 1
	default:
		return 0
	}
}

// ordered are events in their order.
func ordered(events []queue.Event) []queue.Event {
	l := slices.Clone(events)
	slices.SortFunc(l, due)
	return l
}

// plain is a queue as a plain list of events, always in order.
type plain struct {
	room   int
	events []queue.Event
}

// at is the place of the event of a kind and of something, or -1.
func (p *plain) at(kind, id int) int {
	return slices.IndexFunc(p.events, func(e queue.Event) bool { return e.Kind == kind && e.ID == id })
}

// set lays an event, or answers why not: 0, if it does.
func (p *plain) set(e queue.Event) api.Errno {
	if e.At < 0 || e.At > mostTime || e.Kind < 0 || e.ID < 0 {
		return api.ErrArg
	}
	if p.at(e.Kind, e.ID) < 0 && len(p.events) >= p.room {
		return api.ErrFull
	}
	p.drop(e.Kind, e.ID)
	p.events = ordered(append(p.events, e))
	return 0
}

// drop takes an event away, and tells whether there was one.
func (p *plain) drop(kind, id int) bool {
	at := p.at(kind, id)
	if at >= 0 {
		p.events = slices.Delete(p.events, at, at+1)
	}
	return at >= 0
}

// some are the first of many events, for telling.
func some(events []queue.Event) []queue.Event { return events[:min(len(events), 20)] }

// made is a queue with room for so many, and with events laid one by one.
func made(t *testing.T, room int, events ...queue.Event) *queue.Queue {
	t.Helper()
	q, err := queue.New(room)
	if q == nil || err != nil {
		t.Fatalf("New(%d): %v, %v", room, q, err)
	}
	lay(t, q, events...)
	return q
}

// lay lays events one by one.
func lay(t *testing.T, q *queue.Queue, events ...queue.Event) {
	t.Helper()
	for _, e := range events {
		if err := q.Set(e); err != nil {
			t.Fatalf("Set(%v): %v", e, err)
		}
	}
}

// refuses asks for an error of Set, and that all is as it was.
func refuses(t *testing.T, q *queue.Queue, e queue.Event, want api.Errno) {
	t.Helper()
	was := q.List()
	if err := q.Set(e); !holds(err, want) {
		t.Errorf("Set(%v): %v, not error %d", e, err, int(want))
	}
	are(t, q, was...)
}

// isFirst asks for the first event of those that there are, in order; of none for nothing.
func isFirst(t *testing.T, q *queue.Queue, want []queue.Event) {
	t.Helper()
	e, is := q.First()
	if is != (len(want) > 0) || is && e != want[0] || !is && e != event(0, 0, 0) {
		t.Errorf("First: %v, %v, of %v", e, is, some(want))
	}
}

// isAt asks for when an event is due.
func isAt(t *testing.T, q *queue.Queue, want queue.Event) {
	t.Helper()
	if at, is := q.Find(want.Kind, want.ID); at != want.At || !is {
		t.Errorf("Find(%d, %d): %d, %v, not %d", want.Kind, want.ID, at, is, want.At)
	}
}

// isNot asks for no event of a kind and of something.
func isNot(t *testing.T, q *queue.Queue, kind, id int) {
	t.Helper()
	if at, is := q.Find(kind, id); at != 0 || is {
		t.Errorf("Find(%d, %d): %d, %v, not nothing", kind, id, at, is)
	}
}

// are asks for just these events, in that order, of all calls that change nothing, twice.
func are(t *testing.T, q *queue.Queue, want ...queue.Event) {
	t.Helper()
	for range 2 {
		if got := q.List(); !slices.Equal(got, want) {
			t.Errorf("List: %d: %v, not %d: %v", len(got), some(got), len(want), some(want))
		}
		if got := q.Len(); got != len(want) {
			t.Errorf("Len: %d, not %d", got, len(want))
		}
		isFirst(t, q, want)
		for _, e := range want {
			isAt(t, q, e)
		}
	}
}

// pops asks for just these events, one by one, each gone once it is taken, and for nothing behind them.
func pops(t *testing.T, q *queue.Queue, want ...queue.Event) {
	t.Helper()
	for i, e := range want {
		isFirst(t, q, want[i:])
		if got, is := q.Pop(); got != e || !is {
			t.Errorf("Pop %d: %v, %v, not %v", i, got, is, e)
			return
		}
		isNot(t, q, e.Kind, e.ID)
		if got := q.Len(); got != len(want)-i-1 {
			t.Errorf("Len: %d, not %d", got, len(want)-i-1)
		}
	}
	popsNone(t, q)
}

// popsNone asks for no event, twice.
func popsNone(t *testing.T, q *queue.Queue) {
	t.Helper()
	for range 2 {
		if e, is := q.Pop(); e != event(0, 0, 0) || is {
			t.Errorf("Pop of none: %v, %v", e, is)
		}
		are(t, q)
	}
}

// drops asks Drop for whether there was an event, which isn't there any more.
func drops(t *testing.T, q *queue.Queue, kind, id int, want bool) {
	t.Helper()
	if got := q.Drop(kind, id); got != want {
		t.Errorf("Drop(%d, %d): %v", kind, id, got)
	}
	isNot(t, q, kind, id)
}

// eachOrder hands on events in every order there is.
func eachOrder(events []queue.Event, do func([]queue.Event)) {
	var lead func(int)
	lead = func(n int) {
		if n == len(events) {
			do(events)
			return
		}
		for i := n; i < len(events); i++ {
			events[n], events[i] = events[i], events[n]
			lead(n + 1)
			events[n], events[i] = events[i], events[n]
		}
	}
	lead(0)
}
