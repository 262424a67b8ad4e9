package inherit

import (
	"math"
	"slices"
)

// What a walk knows of a block that isn't open.
const (
	unseen = -1
	closed = math.MaxInt
)

// walk goes from blocks to their templates, to each once.
type walk struct {
	templates [][]int
	// open are the blocks that were come to, as long as they may be on a loop with one that comes yet.
	open []int
	// back is where in open the first block stands that a block was seen to lead back to; its own
	// place, if there is none.
	back []int
	// order are the blocks that are done, templates ahead.
	order []int
	// loops tells which blocks lead back to themselves.
	loops []bool
}

// walkAll is an order of blocks in which templates come first, where no block leads back to itself;
// which ones do.
func walkAll(templates [][]int) ([]int, []bool) {
	n := len(templates)
	w := walk{templates: templates, back: slices.Repeat([]int{unseen}, n), loops: make([]bool, n)}
	for i := range n {
		if w.back[i] == unseen {
			w.goTo(i)
		}
	}
	return w.order, w.loops
}

// goTo goes to a block, and on to its templates.
func (w *walk) goTo(i int) {
	place := len(w.open)
	w.open = append(w.open, i)
	w.back[i] = place
	for _, template := range w.templates[i] {
		if w.back[template] == unseen {
			w.goTo(template)
		}
		w.back[i] = min(w.back[i], w.back[template])
	}
	w.order = append(w.order, i)
	if w.back[i] == place {
		w.closeFrom(place)
	}
}

// closeFrom closes the open blocks from a place on, which all lead to each other.
func (w *walk) closeFrom(place int) {
	ring := w.open[place:]
	w.open = w.open[:place]
	for _, i := range ring {
		w.back[i] = closed
		w.loops[i] = len(ring) > 1 || slices.Contains(w.templates[i], i)
	}
}
