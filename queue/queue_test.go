package queue_test

import (
	"math"
	"math/rand"
	"slices"
	"testing"

	"belvedere/api"
	"belvedere/queue"
)

// wrongEvents are events that may not be, each for one reason, or for several.
var wrongEvents = []queue.Event{
	{At: -1}, {At: math.MinInt}, {At: -mostTime}, {At: -1 << 32},
	{At: mostTime + 1}, {At: mostTime + 2}, {At: math.MaxInt}, {At: math.MaxInt - 1},
	{Kind: -1}, {Kind: math.MinInt}, {Kind: -1 << 32}, {At: 5, Kind: -1, ID: 3},
	{ID: -1}, {ID: math.MinInt}, {ID: -1 << 32}, {At: 5, Kind: 3, ID: -1},
	{At: -1, Kind: -1, ID: -1}, {At: mostTime + 1, Kind: 1, ID: 1}, {At: -1, Kind: 1, ID: 1},
}

// rightEvents are events at the edges of what may be.
var rightEvents = []queue.Event{
	{}, {At: 0, Kind: 0, ID: math.MaxInt}, {At: 0, Kind: math.MaxInt, ID: 0}, {At: 1, Kind: 1, ID: 1},
	{At: mostTime - 1, Kind: math.MaxInt, ID: math.MaxInt}, {At: mostTime, Kind: 1, ID: 2}, {At: mostTime, Kind: 2, ID: 1},
}

// QU1: a queue has no events at first, and room for as many as it was made for.
func TestNew(t *testing.T) {
	for _, n := range []int{1, 2, 3, 100, mostEvents - 1, mostEvents} {
		q := made(t, n)
		are(t, q)
		isNot(t, q, 0, 0)
		popsNone(t, q)
		drops(t, q, 0, 0, false)
		var want []queue.Event
		for i := range n {
			want = append(want, event(i, 0, i))
		}
		lay(t, q, want...)
		refuses(t, q, event(0, 0, n), api.ErrFull)
		refuses(t, q, event(0, 1, 0), api.ErrFull)
		pops(t, q, want...)
	}
}

// QU1: there is no queue of no room, of less, or of too much.
func TestNewOfWrongRoom(t *testing.T) {
	for _, n := range []int{0, -1, -2, math.MinInt, math.MinInt + 1, -mostEvents, mostEvents + 1, mostEvents + 2, 1 << 17, 1 << 32, 1<<32 + 1, 1 << 62, math.MaxInt} {
		if q, err := queue.New(n); q != nil || !holds(err, api.ErrArg) {
			t.Errorf("New(%d): %v, %v", n, q, err)
		}
	}
}

// QU1, QU2: a nil queue takes no event, and has none.
func TestNilQueue(t *testing.T) {
	var q *queue.Queue
	for _, e := range append(slices.Clone(wrongEvents), rightEvents...) {
		refuses(t, q, e, api.ErrArg)
		drops(t, q, e.Kind, e.ID, false)
	}
	are(t, q)
	popsNone(t, q)
}

// QU1: what may be is laid, up to the edges.
func TestSetAtTheEdges(t *testing.T) {
	for _, e := range rightEvents {
		are(t, made(t, 1, e), e)
	}
	q := made(t, len(rightEvents), rightEvents...)
	are(t, q, ordered(rightEvents)...)
	pops(t, q, ordered(rightEvents)...)
}

// QU1: what may not be is refused, full or not, there or not, and changes nothing.
func TestSetOfWrongEvents(t *testing.T) {
	for _, e := range wrongEvents {
		refuses(t, made(t, 1), e, api.ErrArg)
		refuses(t, made(t, 3, event(9, 0, 0), event(7, 1, 1)), e, api.ErrArg)
		refuses(t, made(t, 2, event(9, 0, 0), event(7, 1, 1)), e, api.ErrArg)
		refuses(t, made(t, 1, event(9, 5, 5)), e, api.ErrArg)
	}
}

// QU1: as many events as there is room for are laid; one more isn't, unless one of its kind and of the same is there, whose place it takes.
func TestSetOfAFullQueue(t *testing.T) {
	q := made(t, 3, event(20, 1, 1), event(10, 1, 2), event(30, 2, 1))
	for _, e := range []queue.Event{event(0, 2, 2), event(15, 0, 0), event(40, 1, 3), event(mostTime, 3, 1)} {
		refuses(t, q, e, api.ErrFull)
	}
	lay(t, q, event(5, 1, 1))
	are(t, q, event(5, 1, 1), event(10, 1, 2), event(30, 2, 1))
	lay(t, q, event(35, 1, 1))
	are(t, q, event(10, 1, 2), event(30, 2, 1), event(35, 1, 1))
	lay(t, q, event(35, 1, 1))
	are(t, q, event(10, 1, 2), event(30, 2, 1), event(35, 1, 1))
	refuses(t, q, event(5, 2, 2), api.ErrFull)
	pops(t, q, event(10, 1, 2), event(30, 2, 1), event(35, 1, 1))
}

// QU1: an event takes the place of the one of its kind and of the same, wherever that is, and wherever it belongs.
func TestSetAgain(t *testing.T) {
	const n = 20
	for i := range n {
		for at := range 2*n + 2 {
			q, p := made(t, n), plain{room: n}
			for k := range n {
				e := event(2*k+1, k%3, n-k)
				lay(t, q, e)
				p.set(e)
			}
			e := event(at, i%3, n-i)
			lay(t, q, e)
			p.set(e)
			are(t, q, p.events...)
			pops(t, q, p.events...)
		}
	}
}

// QU1: of one kind and of one thing there is one event, of a kind and of a thing as many as there are of both.
func TestSetOfKindsAndIDs(t *testing.T) {
	q := made(t, 9)
	var want []queue.Event
	for kind := range 3 {
		for id := range 3 {
			want = append(want, event(10*kind+id, kind, id))
		}
	}
	for range 3 {
		lay(t, q, want...)
		are(t, q, want...)
	}
	refuses(t, q, event(0, 3, 0), api.ErrFull)
	refuses(t, q, event(0, 0, 3), api.ErrFull)
	drops(t, q, 1, 2, true)
	are(t, q, slices.Delete(want, 5, 6)...)
}

// QU1: what is dropped isn't there any more, and nothing else is dropped.
func TestDrop(t *testing.T) {
	all := []queue.Event{event(3, 1, 4), event(4, 1, 5), event(5, 9, 2), event(6, 5, 3), event(7, 8, 7)}
	for i, e := range all {
		q := made(t, len(all), all...)
		rest := slices.Delete(slices.Clone(all), i, i+1)
		drops(t, q, e.Kind, e.ID, true)
		are(t, q, rest...)
		drops(t, q, e.Kind, e.ID, false)
		are(t, q, rest...)
		pops(t, q, rest...)
	}
	q := made(t, len(all), all...)
	for i, e := range all {
		drops(t, q, e.Kind, e.ID, true)
		are(t, q, all[i+1:]...)
	}
	popsNone(t, q)
}

// QU1: what isn't there isn't dropped: not of another kind, of something else, or of what can't be.
func TestDropOfNone(t *testing.T) {
	all := []queue.Event{event(3, 1, 4), event(4, 2, 5), event(5, 0, 2)}
	q := made(t, len(all), all...)
	for _, k := range [][2]int{{0, 0}, {1, 5}, {4, 1}, {2, 4}, {3, 1}, {5, 0}, {2, 0}, {-1, 4}, {1, -4}, {-1, -1}, {math.MinInt, math.MaxInt}, {math.MaxInt, math.MinInt}} {
		drops(t, q, k[0], k[1], false)
		are(t, q, all...)
	}
}

// QU1: what is dropped, or taken, makes room for one.
func TestRoomAgain(t *testing.T) {
	q := made(t, 2, event(1, 0, 0), event(2, 0, 1))
	refuses(t, q, event(0, 0, 2), api.ErrFull)
	drops(t, q, 0, 1, true)
	lay(t, q, event(0, 0, 2))
	are(t, q, event(0, 0, 2), event(1, 0, 0))
	refuses(t, q, event(2, 0, 1), api.ErrFull)
	if e, is := q.Pop(); e != event(0, 0, 2) || !is {
		t.Errorf("Pop: %v, %v", e, is)
	}
	lay(t, q, event(2, 0, 1))
	are(t, q, event(1, 0, 0), event(2, 0, 1))
	refuses(t, q, event(0, 0, 2), api.ErrFull)
	drops(t, q, 7, 7, false)
	refuses(t, q, event(0, 0, 2), api.ErrFull)
	one := made(t, 1)
	for i := range 100 {
		lay(t, one, event(i, i, 0))
		refuses(t, one, event(i, i+1, 0), api.ErrFull)
		drops(t, one, i, 0, true)
	}
	popsNone(t, one)
}

// QU2: of one time the less kind is first, of one kind, too, the less ID: but the time comes first, then the kind.
func TestOrder(t *testing.T) {
	order := []queue.Event{
		event(1, 9, 9), event(2, 1, 8), event(2, 1, 9), event(2, 2, 3), event(2, 3, 2), event(3, 0, 0), event(mostTime, 0, 1),
	}
	for i := range order {
		for k := i + 1; k < len(order); k++ {
			q := made(t, 2, order[k], order[i])
			are(t, q, order[i], order[k])
			pops(t, q, order[i], order[k])
			pops(t, made(t, 2, order[i], order[k]), order[i], order[k])
		}
	}
}

// QU2: the example of the chapter.
func TestExample(t *testing.T) {
	q := made(t, 2, event(5, 2, 0), event(5, 1, 9))
	are(t, q, event(5, 1, 9), event(5, 2, 0))
}

// QU2: Find tells when, whatever was laid, dropped and taken ahead of it.
func TestFind(t *testing.T) {
	q := made(t, 4, event(9, 1, 2), event(8, 2, 1), event(0, 3, 3))
	isAt(t, q, event(0, 3, 3))
	isAt(t, q, event(9, 1, 2))
	lay(t, q, event(7, 1, 2))
	isAt(t, q, event(7, 1, 2))
	isAt(t, q, event(8, 2, 1))
	for _, k := range [][2]int{{1, 1}, {2, 2}, {3, 1}, {3, 2}, {0, 0}, {-1, 2}, {1, -2}, {math.MaxInt, 0}, {0, math.MinInt}} {
		isNot(t, q, k[0], k[1])
	}
	drops(t, q, 1, 2, true)
	isAt(t, q, event(8, 2, 1))
	if e, is := q.Pop(); e != event(0, 3, 3) || !is {
		t.Errorf("Pop: %v, %v", e, is)
	}
	isNot(t, q, 3, 3)
	lay(t, q, event(4, 3, 3))
	isAt(t, q, event(4, 3, 3))
	are(t, q, event(4, 3, 3), event(8, 2, 1))
}

// QU2, QU3: in whatever order few events are laid, they come in theirs; so do those that are left, whichever is dropped, or laid anew.
func TestAllOrders(t *testing.T) {
	events := []queue.Event{event(1, 1, 1), event(1, 1, 2), event(1, 2, 0), event(2, 0, 5), event(2, 0, 6), event(3, 3, 3), event(4, 0, 1)}
	order := slices.Clone(events)
	eachOrder(events, func(laid []queue.Event) {
		for i, e := range order {
			q := made(t, len(order), laid...)
			drops(t, q, e.Kind, e.ID, true)
			rest := slices.Delete(slices.Clone(order), i, i+1)
			are(t, q, rest...)
			lay(t, q, laid[0], e)
			lay(t, q, event(i, laid[0].Kind, laid[0].ID))
			lay(t, q, laid[0])
			are(t, q, order...)
			pops(t, q, order...)
		}
	})
}

// QU2: List answers new memory each time: what is done to it, and to its spare room, is seen in nothing else, and what is done to the queue isn't seen in it.
func TestListIsNew(t *testing.T) {
	r := rand.New(rand.NewSource(1))
	for range 300 {
		q, p := made(t, 50), plain{room: 50}
		for range 1 + r.Intn(80) {
			e := event(r.Intn(30), r.Intn(4), r.Intn(10))
			if !holds(q.Set(e), p.set(e)) {
				t.Fatalf("Set(%v) of %v", e, p.events)
			}
		}
		one, two := q.List(), q.List()
		one = one[:cap(one)]
		for i := range one {
			one[i] = event(-7, -7, -7)
		}
		if !slices.Equal(two, p.events) {
			t.Fatalf("after another list was changed: %v, not %v", two, p.events)
		}
		are(t, q, p.events...)
		for i := range 10 {
			_, _ = q.Pop()
			_ = q.Set(event(1, 9, i))
		}
		if !slices.Equal(two, p.events) {
			t.Fatalf("after the queue was changed: %v, not %v", two, p.events)
		}
	}
}

// Two queues know nothing of each other.
func TestTwoQueues(t *testing.T) {
	one, two := made(t, 2, event(1, 0, 0), event(2, 0, 1)), made(t, 1)
	are(t, two)
	lay(t, two, event(7, 0, 0))
	are(t, one, event(1, 0, 0), event(2, 0, 1))
	refuses(t, two, event(1, 1, 1), api.ErrFull)
	drops(t, one, 0, 0, true)
	are(t, two, event(7, 0, 0))
	pops(t, one, event(2, 0, 1))
	pops(t, two, event(7, 0, 0))
}
