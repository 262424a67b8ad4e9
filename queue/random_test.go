package queue_test

import (
	"math/rand"
	"slices"
	"testing"

	"belvedere/api"
	"belvedere/queue"
)

// doubles is a queue, and the plain list that it is held against.
type doubles struct {
	t *testing.T
	q *queue.Queue
	p plain
}

// set lays an event in both.
func (d *doubles) set(e queue.Event) {
	d.t.Helper()
	was := slices.Clone(d.p.events)
	want := d.p.set(e)
	if err := d.q.Set(e); !holds(err, want) {
		d.t.Fatalf("Set(%v) of %v: %v, not error %d", e, was, err, int(want))
	}
}

// drop drops an event of both.
func (d *doubles) drop(kind, id int) {
	d.t.Helper()
	was := slices.Clone(d.p.events)
	if got := d.q.Drop(kind, id); got != d.p.drop(kind, id) {
		d.t.Fatalf("Drop(%d, %d) of %v: %v", kind, id, was, got)
	}
}

// pop takes the first event of both.
func (d *doubles) pop() {
	d.t.Helper()
	got, is := d.q.Pop()
	var want queue.Event
	if len(d.p.events) > 0 {
		want = d.p.events[0]
	}
	if got != want || is != (len(d.p.events) > 0) {
		d.t.Fatalf("Pop of %v: %v, %v", d.p.events, got, is)
	}
	d.p.drop(want.Kind, want.ID)
}

// same asks whether both have the same.
func (d *doubles) same() {
	d.t.Helper()
	are(d.t, d.q, d.p.events...)
	if d.t.Failed() {
		d.t.FailNow()
	}
}

// step does one thing of many with events of so many kinds and IDs.
func (d *doubles) step(r *rand.Rand, kinds, ids int) {
	d.t.Helper()
	kind, id := r.Intn(kinds), r.Intn(ids)
	switch r.Intn(12) {
	case 0, 1:
		d.pop()
	case 2, 3:
		d.drop(kind, id)
	case 4:
		d.set(event(r.Intn(40), kind-1, id-1))
	case 5:
		d.set(event(mostTime+1-r.Intn(3), kind, id))
	default:
		d.set(event(r.Intn(40)-1, kind, id))
	}
}

// QU1 to QU3: at random, in small queues and in larger ones, all calls answer what the words say.
func TestAtRandom(t *testing.T) {
	r := rand.New(rand.NewSource(2))
	full := 0
	for _, room := range []int{1, 2, 3, 4, 7, 8, 20, 100} {
		for round := range 30 {
			d := doubles{t, made(t, room), plain{room: room}}
			for range 10 * (room + 10) {
				d.step(r, 1+round%5, 2+room)
				d.same()
				if len(d.p.events) == room {
					full++
				}
			}
			pops(t, d.q, d.p.events...)
		}
	}
	if full < 1000 {
		t.Errorf("only %d times full", full)
	}
}

// QU3: many events, laid in any order, each come out once, in order, as many are laid anew and dropped.
func TestManyAtRandom(t *testing.T) {
	r := rand.New(rand.NewSource(3))
	for range 5 {
		q := made(t, mostEvents)
		left := map[[2]int]queue.Event{}
		for range 3 * mostEvents {
			e := event(r.Intn(1000), r.Intn(3), r.Intn(mostEvents/3))
			lay(t, q, e)
			left[[2]int{e.Kind, e.ID}] = e
			if r.Intn(4) == 0 {
				gone := [2]int{r.Intn(3), r.Intn(mostEvents / 3)}
				_, is := left[gone]
				drops(t, q, gone[0], gone[1], is)
				delete(left, gone)
			}
		}
		var want []queue.Event
		for _, e := range left {
			want = append(want, e)
		}
		want = ordered(want)
		are(t, q, want...)
		pops(t, q, want...)
	}
}

// QU1 to QU3: a queue of all the room there may be, laid in order, against it, and at random: full, laid anew, dropped from, taken from.
func TestMostEvents(t *testing.T) {
	up := make([]queue.Event, mostEvents)
	for i := range up {
		up[i] = event(i/16, i/4%4, i)
	}
	down := slices.Clone(up)
	slices.Reverse(down)
	mixed := slices.Clone(up)
	rand.New(rand.NewSource(4)).Shuffle(len(mixed), func(i, k int) { mixed[i], mixed[k] = mixed[k], mixed[i] })
	for _, laid := range [][]queue.Event{up, down, mixed} {
		q := made(t, mostEvents, laid...)
		refuses(t, q, event(0, 0, mostEvents), api.ErrFull)
		first, last := up[0], up[mostEvents-1]
		lay(t, q, event(mostTime, first.Kind, first.ID), event(0, last.Kind, last.ID))
		want := slices.Clone(up)
		want[0], want[mostEvents-1] = event(mostTime, first.Kind, first.ID), event(0, last.Kind, last.ID)
		want = ordered(want)
		are(t, q, want...)
		drops(t, q, want[40000].Kind, want[40000].ID, true)
		lay(t, q, event(want[40000].At, 7, 7))
		refuses(t, q, event(0, 7, 8), api.ErrFull)
		want[40000] = event(want[40000].At, 7, 7)
		pops(t, q, ordered(want)...)
	}
}

// What was laid, dropped and taken ahead isn't seen: queues with the same events answer the same.
func TestHowTheyCameIsNotSeen(t *testing.T) {
	r := rand.New(rand.NewSource(5))
	for range 200 {
		d := doubles{t, made(t, 30), plain{room: 30}}
		for range 200 {
			d.step(r, 3, 12)
		}
		other := made(t, 30, d.p.events...)
		are(t, other, d.p.events...)
		d.same()
		pops(t, d.q, d.p.events...)
		pops(t, other, d.p.events...)
	}
}

// FuzzQueue holds all calls against the plain list, with steps of any bytes.
func FuzzQueue(f *testing.F) {
	f.Add(byte(2), "\x00\x05\x02\x00\x00\x05\x01\x09\x02\x00\x00\x00")
	f.Add(byte(0), "\x00\x01\x01\x01\x00\x00\x01\x02\x01\x00\x01\x01")
	f.Fuzz(func(t *testing.T, room byte, steps string) {
		n := int(room) + 1
		d := doubles{t, made(t, n), plain{room: n}}
		for i := 3; i < len(steps); i += 4 {
			at, kind, id := int(steps[i-2])-1, int(steps[i-1])-1, int(steps[i])-1
			switch steps[i-3] % 4 {
			case 1:
				d.drop(kind, id)
			case 2:
				d.pop()
			case 3:
				d.set(event(mostTime-10+at, kind, id))
			default:
				d.set(event(at, kind, id))
			}
			d.same()
		}
		pops(t, d.q, d.p.events...)
	})
}
