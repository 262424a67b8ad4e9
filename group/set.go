package group

import (
	"math/bits"
	"slices"
)

// wordBits are as many places as stand in one word of a set.
const wordBits = 64

// set are places, each once. They are bits of words, as many large groups in one another would be
// put together too slowly place by place.
type set map[int]uint64

// add puts a place into a set.
func (s set) add(place int) { s[place/wordBits] |= 1 << (place % wordBits) }

// addAll puts all places of another set into a set.
func (s set) addAll(other set) {
	for at, word := range other {
		s[at] |= word
	}
}

// places are those of a set, ascending.
func (s set) places() []int {
	var places []int
	for at, word := range s {
		for ; word != 0; word &= word - 1 {
			places = append(places, at*wordBits+bits.TrailingZeros64(word))
		}
	}
	slices.Sort(places)
	return places
}
