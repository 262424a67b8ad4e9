package flap_test

import (
	"math"
	"math/rand"
	"testing"

	"belvedere/api"
	"belvedere/flap"
)

// wrongCounts are numbers of states that can't be.
var wrongCounts = []int{-1, -2, -21, -22, math.MinInt, math.MinInt + 1, -1 << 32, 22, 23, 42, 1 << 16, 1 << 32, 1<<32 + 1, 1<<62 + 3, math.MaxInt}

// wrongStates are numbers that are no states.
var wrongStates = []int{-1, -2, -3, -4, 4, 5, 6, 7, 21, 256, 1 << 16, 1 << 32, 1<<32 + 1, -1 << 32, math.MinInt, math.MinInt + 1, math.MaxInt}

// wrongRests are what can't stand behind the states: states, too.
var wrongRests = []int{1, 2, 3, -1, 4, 256, 1 << 32, -1 << 32, math.MinInt, math.MaxInt}

// wrongTracks are tracks that may not be, each for one reason, or for several; most of them go to and fro.
func wrongTracks() []wrongTrack {
	var l []wrongTrack
	add := func(why string, t flap.Track) { l = append(l, wrongTrack{why, t}) }
	for _, n := range wrongCounts {
		all := track(fro(slots, 0, 2)...)
		all.N = n
		add("states, and a wrong N", all)
		add("no states, and a wrong N", flap.Track{N: n})
	}
	for n := 1; n <= slots; n++ {
		for place := range n {
			for _, state := range wrongStates {
				t := track(fro(n, 1, 3)...)
				t.L[place] = state
				add("a wrong state", t)
			}
		}
	}
	for n := range slots {
		for place := n; place < slots; place++ {
			for _, rest := range wrongRests {
				t := track(fro(n, 2, 0)...)
				t.L[place] = rest
				add("something behind", t)
			}
		}
	}
	return l
}

// The names of the numbers are given.
func TestNumbers(t *testing.T) {
	if flap.Slots != slots || flap.Whole != whole {
		t.Errorf("Slots %d, Whole %d", flap.Slots, flap.Whole)
	}
}

// FL1: no states at all may be, as many as there are slots may be, and each number between.
func TestCheckOfCounts(t *testing.T) {
	checks(t, "no states at all", flap.Track{}, 0)
	for n := 0; n <= slots; n++ {
		checks(t, "all of 0", flap.Track{N: n}, 0)
		for state := range 4 {
			checks(t, "a state often", track(fro(n, state, state)...), 0)
		}
		checks(t, "to and fro", track(fro(n, 3, 0)...), 0)
	}
	for _, n := range wrongCounts {
		checks(t, "a wrong N of no states", flap.Track{N: n}, api.ErrArg)
		for state := range 4 {
			all := track(fro(slots, state, state)...)
			all.N = n
			checks(t, "a wrong N", all, api.ErrArg)
		}
	}
}

// FL1: each state from 0 to 3 may be, at each place, and no other one.
func TestCheckOfStates(t *testing.T) {
	for n := 1; n <= slots; n++ {
		for place := range n {
			for around := range 4 {
				x := track(fro(n, around, around)...)
				for state := range 4 {
					x.L[place] = state
					checks(t, "states", x, 0)
				}
				for _, state := range wrongStates {
					x.L[place] = state
					checks(t, "a wrong state", x, api.ErrArg)
				}
			}
		}
	}
}

// FL1: nothing but 0 stands behind the states, not even a state.
func TestCheckOfTheRest(t *testing.T) {
	for n := range slots {
		for place := n; place < slots; place++ {
			for state := range 4 {
				x := track(fro(n, state, state)...)
				checks(t, "nothing behind", x, 0)
				for _, rest := range wrongRests {
					x.L[place] = rest
					checks(t, "something behind", x, api.ErrArg)
				}
			}
		}
		for state := 1; state < 4; state++ {
			x := track(fro(slots, state, state)...)
			x.N = n
			checks(t, "states all over", x, api.ErrArg)
		}
	}
}

// FL1: of what is wrong in several ways there is one answer.
func TestCheckOfMuch(t *testing.T) {
	for _, n := range []int{-1, 0, 5, 21, 22} {
		x := flap.Track{N: n}
		for i := range x.L {
			x.L[i] = 4 - 5*(i%2)
		}
		checks(t, "all wrong", x, api.ErrArg)
	}
}

// FL1, FL2: all tracks of few states, right or wrong, by the words.
func TestFewStates(t *testing.T) {
	const places, kinds = 4, 6
	for n := -1; n <= places+1; n++ {
		for code := range kinds * kinds * kinds * kinds {
			x := flap.Track{N: n}
			for place := range places {
				x.L[place] = code%kinds - 1
				code /= kinds
			}
			if !mayBe(x) {
				checks(t, "few", x, api.ErrArg)
				changes(t, x, 0)
				pushes(t, x, 1, x)
				continue
			}
			checks(t, "few", x, 0)
			changes(t, x, changeOf(x.L[:n]))
			for state := -1; state <= 4; state++ {
				want := x
				if state >= 0 && state <= 3 {
					want.L[n], want.N = state, n+1
				}
				pushes(t, x, state, want)
			}
		}
	}
}

// FL1: a state comes behind those that are there; of 21 the first one goes.
func TestPush(t *testing.T) {
	for n := 0; n <= slots; n++ {
		for first := range 4 {
			var states []int
			for i := range n {
				states = append(states, (first+i*i+i/3)%4)
			}
			for state := range 4 {
				want := track(last(append(states[:n:n], state))...)
				pushes(t, track(states...), state, want)
				checks(t, "what was pushed", want, 0)
			}
		}
	}
}

// FL1: to no states, to 20 and to 21.
func TestPushAtTheEdges(t *testing.T) {
	pushes(t, flap.Track{}, 0, flap.Track{N: 1})
	pushes(t, flap.Track{}, 3, flap.Track{N: 1, L: [21]int{3}})
	twenty := flap.Track{N: 20, L: [21]int{3, 0, 1, 2, 3, 3, 2, 1, 0, 0, 1, 1, 2, 2, 3, 0, 3, 1, 0, 2}}
	full := flap.Track{N: 21, L: [21]int{3, 0, 1, 2, 3, 3, 2, 1, 0, 0, 1, 1, 2, 2, 3, 0, 3, 1, 0, 2, 1}}
	next := flap.Track{N: 21, L: [21]int{0, 1, 2, 3, 3, 2, 1, 0, 0, 1, 1, 2, 2, 3, 0, 3, 1, 0, 2, 1, 3}}
	nought := flap.Track{N: 21, L: [21]int{1, 2, 3, 3, 2, 1, 0, 0, 1, 1, 2, 2, 3, 0, 3, 1, 0, 2, 1, 3, 0}}
	pushes(t, twenty, 1, full)
	pushes(t, full, 3, next)
	pushes(t, next, 0, nought)
}

// FL1: what is no state changes nothing, however many there are.
func TestPushOfWrongStates(t *testing.T) {
	for n := 0; n <= slots; n++ {
		x := track(fro(n, 1, 2)...)
		for _, state := range wrongStates {
			pushes(t, x, state, x)
		}
	}
}

// FL1: nothing comes to a track that may not be: it is as it was.
func TestPushToWrongTracks(t *testing.T) {
	for _, wrong := range wrongTracks() {
		for state := range 4 {
			pushes(t, wrong.t, state, wrong.t)
		}
		pushes(t, wrong.t, -1, wrong.t)
		pushes(t, wrong.t, 4, wrong.t)
	}
}

// FL2: of none and of one there is no change.
func TestChangeOfFew(t *testing.T) {
	changes(t, flap.Track{}, 0)
	for one := range 4 {
		changes(t, track(one), 0)
		for two := range 4 {
			want := 1140
			if one == two {
				want = 0
			}
			changes(t, track(one, two), want)
		}
	}
}

// FL2: the example of the chapter.
func TestExample(t *testing.T) {
	changes(t, grown(0, 1, 0), 2260)
}

// FL2: a single change weighs by how many states are behind it, however many are ahead.
func TestChangeOfOnePlace(t *testing.T) {
	for n := 2; n <= slots; n++ {
		for place := 1; place < n; place++ {
			for one := range 4 {
				for other := range 4 {
					if one == other {
						continue
					}
					states := fro(n, one, one)
					copy(states[place:], fro(n-place, other, other))
					changes(t, track(states...), weights[n-1-place])
				}
			}
		}
	}
}

// FL2: a state that is alone among others changes twice, the first one and the last one once.
func TestChangeOfAStateAlone(t *testing.T) {
	for n := 2; n <= slots; n++ {
		for place := range n {
			states := fro(n, 0, 0)
			states[place] = 2
			want := 0
			if place > 0 {
				want += weights[n-1-place]
			}
			if place < n-1 {
				want += weights[n-2-place]
			}
			changes(t, track(states...), want)
		}
	}
}

// FL2: states that go to and fro have all weights; 21 come to Whole.
func TestChangeToAndFro(t *testing.T) {
	for one := range 4 {
		for other := range 4 {
			if one == other {
				continue
			}
			sum := 0
			for n := 1; n <= slots; n++ {
				changes(t, track(fro(n, one, other)...), sum)
				if n < slots {
					sum += weights[n-1]
				}
			}
			if sum != whole {
				t.Fatalf("all weights: %d", sum)
			}
			changes(t, grown(fro(100, one, other)...), whole)
		}
	}
	changes(t, grown(0, 1, 2, 3, 0, 1, 2, 3, 0, 1, 2, 3, 0, 1, 2, 3, 0, 1, 2, 3, 0), whole)
}

// FL2: a track that may not be has no change.
func TestChangeOfWrongTracks(t *testing.T) {
	for _, wrong := range wrongTracks() {
		changes(t, wrong.t, 0)
	}
}

// FL2: each change that 21 states may have, at each bound, with any other bound.
func TestFlapsAtAllBounds(t *testing.T) {
	sums := allChanges()
	if len(sums) < 500 {
		t.Fatalf("%d changes", len(sums))
	}
	for sum, bits := range sums {
		x := track(ofChange(bits)...)
		changes(t, x, sum)
		for bound := -2; bound <= 102; bound++ {
			want := reaches(sum, bound)
			for _, other := range []int{-1, 0, 1, 50, 100, 101} {
				flaps(t, x, true, bound, other, want)
				flaps(t, x, false, other, bound, want)
			}
		}
	}
}

// FL2: a change that is just at a bound comes to it, one that is just below doesn't, one that is just above does.
func TestFlapsJustThere(t *testing.T) {
	sums := allChanges()
	some := 0
	for bound := 1; bound <= 100; bound++ {
		at := 190 * bound
		for by := -20; by <= 20; by += 10 {
			bits, is := sums[at+by]
			if !is {
				continue
			}
			some++
			flaps(t, track(ofChange(bits)...), true, bound, 100-bound, by >= 0)
			flaps(t, track(ofChange(bits)...), false, 100-bound, bound, by >= 0)
		}
	}
	if some < 200 {
		t.Errorf("only %d changes beside a bound", some)
	}
}

// FL2: 3800 is a fifth of the whole: 20 is reached, 21 isn't; with one place moved it is below, or above.
func TestFlapsOfAFifth(t *testing.T) {
	at := track(ofChange(1<<8 | 1<<9 | 1<<10 | 1<<11)...)
	below := track(ofChange(1<<8 | 1<<9 | 1<<10 | 1<<12)...)
	above := track(ofChange(1<<7 | 1<<9 | 1<<10 | 1<<11)...)
	changes(t, at, 3800)
	changes(t, below, 3780)
	changes(t, above, 3820)
	for _, did := range []bool{false, true} {
		flaps(t, at, did, 19, 19, true)
		flaps(t, at, did, 20, 20, true)
		flaps(t, at, did, 21, 21, false)
		flaps(t, below, did, 19, 19, true)
		flaps(t, below, did, 20, 20, false)
		flaps(t, above, did, 20, 20, true)
		flaps(t, above, did, 21, 21, false)
	}
}

// FL2: between low and high all stays as it was; the bounds may be the other way round, too.
func TestFlapsByWhetherItDid(t *testing.T) {
	x := track(ofChange(1<<8 | 1<<9 | 1<<10 | 1<<11)...)
	flaps(t, x, true, 10, 30, true)
	flaps(t, x, false, 10, 30, false)
	flaps(t, x, true, 20, 21, true)
	flaps(t, x, false, 20, 21, false)
	flaps(t, x, true, 5, 20, true)
	flaps(t, x, false, 5, 20, true)
	flaps(t, x, true, 25, 35, false)
	flaps(t, x, false, 25, 35, false)
	flaps(t, x, true, 30, 10, false)
	flaps(t, x, false, 30, 10, true)
	flaps(t, x, true, 21, 20, false)
	flaps(t, x, false, 21, 20, true)
	flaps(t, x, true, math.MaxInt, math.MinInt, false)
	flaps(t, x, false, math.MaxInt, math.MinInt, true)
}

// FL2: bounds below 0 are as 0, which all comes to, above 100 as 100, which just the whole comes to.
func TestFlapsOfFarBounds(t *testing.T) {
	none, most := track(fro(slots, 1, 1)...), track(fro(slots, 1, 2)...)
	allButOne := track(ofChange(1<<20 - 1 - 1<<19)...)
	changes(t, allButOne, 18240)
	for _, did := range []bool{false, true} {
		for _, bound := range []int{0, -1, -2, -100, -1 << 32, math.MinInt, math.MinInt + 1} {
			for _, x := range []flap.Track{{}, track(2), none, allButOne, most} {
				flaps(t, x, did, bound, bound, true)
			}
		}
		for _, bound := range []int{100, 101, 102, 200, 1 << 32, 1 << 50, 1 << 62, math.MaxInt/19000 + 1, math.MaxInt - 1, math.MaxInt} {
			for _, x := range []flap.Track{{}, track(2), none, allButOne} {
				flaps(t, x, did, bound, bound, false)
			}
			flaps(t, most, did, bound, bound, true)
		}
	}
}

// FL2: a track that may not be has a change of 0, so it comes to a bound of 0 alone.
func TestFlapsOfWrongTracks(t *testing.T) {
	for _, wrong := range wrongTracks() {
		for _, bound := range []int{math.MinInt, -1, 0, 1, 2, 100, 101, math.MaxInt} {
			flaps(t, wrong.t, true, bound, 50-bound, bound <= 0)
			flaps(t, wrong.t, false, 50-bound, bound, bound <= 0)
		}
	}
}

// calm asks for no change, and that nothing flaps but by a bound of 0.
func calm(t *testing.T, x flap.Track) {
	t.Helper()
	changes(t, x, 0)
	for _, bound := range []int{1, 2, 50, 100, 101, math.MaxInt} {
		flaps(t, x, true, bound, 0, false)
		flaps(t, x, false, 0, bound, false)
	}
	for _, bound := range []int{0, -1, math.MinInt} {
		flaps(t, x, true, bound, 100, true)
		flaps(t, x, false, 100, bound, true)
	}
}

// FL3: behind the same state 21 times nothing is left of what was ahead; behind 20 of them one change is.
func TestTheSameState(t *testing.T) {
	for n := range 2*slots + 2 {
		for one := range 4 {
			for other := range 4 {
				for state := range 4 {
					x := grown(fro(n, one, other)...)
					for range slots - 1 {
						x = flap.Push(x, state)
					}
					if n > 0 && fro(n, one, other)[n-1] != state {
						changes(t, x, 760)
						flaps(t, x, true, 4, 100, true)
					}
					x = flap.Push(x, state)
					if want := track(fro(slots, state, state)...); x != want {
						t.Errorf("%v, not %v", x, want)
					}
					calm(t, x)
				}
			}
		}
	}
}

// isAsList asks a track for what a plain list of all states gives.
func isAsList(t *testing.T, x flap.Track, states []int, low, high int) {
	t.Helper()
	if want := track(last(states)...); x != want {
		t.Fatalf("%v, not %v", x, want)
	}
	sum := changeOf(states)
	checks(t, "what was pushed", x, 0)
	changes(t, x, sum)
	flaps(t, x, true, low, high, reaches(sum, low))
	flaps(t, x, false, low, high, reaches(sum, high))
}

// FL1, FL2, FL3: states at random, wrong ones among them, held against a plain list; then the same state till all is calm.
func TestAtRandom(t *testing.T) {
	r := rand.New(rand.NewSource(16))
	for round := range 2000 {
		var x flap.Track
		var states []int
		stays := 1 + round%10
		state := 0
		for range r.Intn(70) {
			if r.Intn(stays) == 0 {
				state = r.Intn(6) - 1
			}
			if state >= 0 && state <= 3 {
				states = append(states, state)
			}
			x = flap.Push(x, state)
			isAsList(t, x, states, r.Intn(110)-5, r.Intn(110)-5)
		}
		state = r.Intn(4)
		for range slots {
			states = append(states, state)
			x = flap.Push(x, state)
			isAsList(t, x, states, r.Intn(110)-5, r.Intn(110)-5)
		}
		calm(t, x)
	}
}
