package flap_test

import (
	"errors"
	"slices"
	"testing"

	"belvedere/api"
	"belvedere/flap"
)

const (
	slots = 21
	whole = 19000
)

// weights are what the changes count, the youngest first.
var weights = [20]int{
	1140, 1120, 1100, 1080, 1060, 1040, 1020, 1000, 980, 960,
	940, 920, 900, 880, 860, 840, 820, 800, 780, 760,
}

// wrongTrack is a track that may not be, and why.
type wrongTrack struct {
	why string
	t   flap.Track
}

// holds tells whether an error is just that number; of 0, whether there is none.
func holds(err error, want api.Errno) bool {
	if want == 0 {
		return err == nil
	}
	var got api.Errno
	return errors.As(err, &got) && got == want
}

// track is a track of states, laid as they are.
func track(states ...int) flap.Track {
	t := flap.Track{N: len(states)}
	copy(t.L[:], states)
	return t
}

// fro are so many states that go to and fro.
func fro(n, one, other int) []int {
	l := make([]int, n)
	for i := range l {
		l[i] = one
		if i%2 == 1 {
			l[i] = other
		}
	}
	return l
}

// mayBe tells whether a track may be, by the words.
func mayBe(t flap.Track) bool {
	if t.N < 0 || t.N > slots {
		return false
	}
	for i, state := range t.L {
		if i < t.N && !slices.Contains([]int{0, 1, 2, 3}, state) {
			return false
		}
		if i >= t.N && state != 0 {
			return false
		}
	}
	return true
}

// last are the last states of a list, so many as are remembered.
func last(states []int) []int { return states[max(0, len(states)-slots):] }

// changeOf is the change of a list's last states, by the table of weights.
func changeOf(states []int) int {
	l := slices.Clone(last(states))
	slices.Reverse(l)
	sum := 0
	for i := range len(l) - 1 {
		if l[i] != l[i+1] {
			sum += weights[i]
		}
	}
	return sum
}

// reaches tells whether a change comes to a bound, by the words.
func reaches(change, bound int) bool {
	switch {
	case bound <= 0:
		return true
	case bound > 100:
		return change*100 >= whole*100
	default:
		return change*100 >= whole*bound
	}
}

// checks asks Check for an error, or for none.
func checks(t *testing.T, why string, of flap.Track, want api.Errno) {
	t.Helper()
	if err := flap.Check(of); !holds(err, want) {
		t.Errorf("Check of %s, %v: %v, not error %d", why, of, err, int(want))
	}
}

// pushes asks Push for a track, twice, and that what is handed in is as it was.
func pushes(t *testing.T, of flap.Track, state int, want flap.Track) {
	t.Helper()
	was := of
	for range 2 {
		if got := flap.Push(of, state); got != want {
			t.Errorf("Push(%v, %d): %v, not %v", of, state, got, want)
		}
		if of != was {
			t.Errorf("Push(%v, %d) changed what it was given: %v", was, state, of)
		}
	}
}

// changes asks for the change of a track, twice, and that what is handed in is as it was.
func changes(t *testing.T, of flap.Track, want int) {
	t.Helper()
	was := of
	for range 2 {
		if got := flap.Change(of); got != want || of != was {
			t.Errorf("Change(%v): %d, not %d; then %v", was, got, want, of)
		}
	}
}

// flaps asks whether something flaps.
func flaps(t *testing.T, of flap.Track, did bool, low, high int, want bool) {
	t.Helper()
	was := of
	if got := flap.Flaps(of, did, low, high); got != want || of != was {
		t.Errorf("Flaps(%v, %v, %d, %d): %v; then %v", was, did, low, high, got, of)
	}
}

// grown is a track to which states came one by one.
func grown(states ...int) flap.Track {
	var x flap.Track
	for _, state := range states {
		x = flap.Push(x, state)
	}
	return x
}

// ofChange are states whose changes are just those of which the bits say so: bit 0 is the youngest.
func ofChange(bits int) []int {
	l := make([]int, slots)
	for i := 1; i < slots; i++ {
		l[i] = l[i-1]
		if bits>>(slots-1-i)&1 == 1 {
			l[i] = (l[i] + 1) % 4
		}
	}
	return l
}

// allChanges are all changes that 21 states may have, each with bits that have it.
func allChanges() map[int]int {
	sums := map[int]int{0: 0}
	for place, weight := range weights {
		more := map[int]int{}
		for sum, bits := range sums {
			more[sum+weight] = bits | 1<<place
		}
		for sum, bits := range more {
			if _, is := sums[sum]; !is {
				sums[sum] = bits
			}
		}
	}
	return sums
}
