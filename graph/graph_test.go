package graph_test

import (
	"errors"
	"math"
	"math/rand"
	"slices"
	"testing"

	"belvedere/api"
	"belvedere/graph"
)

const (
	mostPlaces = 4096
	mostWays   = 1048576
)

// wrongSizes are numbers of places that can't be.
var wrongSizes = []int{-1, -2, -4096, math.MinInt, math.MinInt + 1, -1 << 32, mostPlaces + 1, mostPlaces + 2, 8192, 1 << 32, 1<<32 + 3, math.MaxInt}

// noPlaces are no places, however many there are.
var noPlaces = []int{-1, -2, -4096, math.MinInt, math.MinInt + 1, -1 << 32, mostPlaces, 1 << 32, math.MaxInt - 1, math.MaxInt}

// holds tells whether an error is just that number; of 0, whether there is none.
func holds(err error, want api.Errno) bool {
	if want == 0 {
		return err == nil
	}
	var got api.Errno
	return errors.As(err, &got) && got == want
}

// list are ways.
func list(ways ...[2]int) [][2]int { return ways }

// some are the first of many ways, for telling.
func some(ways [][2]int) [][2]int { return ways[:min(len(ways), 20)] }

// few are the first of many places, for telling.
func few(places []int) []int { return places[:min(len(places), 20)] }

// line are the ways from each of so many places to the next one.
func line(n int) [][2]int {
	var ways [][2]int
	for i := range n - 1 {
		ways = append(ways, [2]int{i, i + 1})
	}
	return ways
}

// turned are ways that lead back.
func turned(ways [][2]int) [][2]int {
	back := slices.Clone(ways)
	for i, way := range ways {
		back[i] = [2]int{way[1], way[0]}
	}
	return back
}

// moved are ways of which each place is another one, by a list.
func moved(ways [][2]int, to []int) [][2]int {
	other := slices.Clone(ways)
	for i, way := range ways {
		other[i] = [2]int{to[way[0]], to[way[1]]}
	}
	return other
}

// dense are as many ways as there may be, in four rows of places: from each of a row to each of the next one.
func dense() [][2]int {
	const row = 512
	ways := make([][2]int, 0, mostWays)
	for i := range 3 * row {
		for to := range row {
			ways = append(ways, [2]int{i, (i/row+1)*row + to})
		}
	}
	for len(ways) < mostWays {
		ways = append(ways, ways[len(ways)-3*row*row])
	}
	return ways
}

// numbers are all from one on, up to another one.
func numbers(from, to int) []int {
	l := make([]int, 0, to-from)
	for i := from; i < to; i++ {
		l = append(l, i)
	}
	return l
}

// isFine asks for no error of Check.
func isFine(t *testing.T, n int, ways [][2]int) {
	t.Helper()
	if err := graph.Check(n, ways); err != nil {
		t.Errorf("Check(%d, %d ways: %v): %v", n, len(ways), some(ways), err)
	}
}

// isRefused asks for Check's error, of each call, and for nothing beside it.
func isRefused(t *testing.T, n int, ways [][2]int, want api.Errno) {
	t.Helper()
	if err := graph.Check(n, ways); !holds(err, want) {
		t.Errorf("Check(%d, %d ways: %v): %v, not error %d", n, len(ways), some(ways), err, int(want))
	}
	noLoopAsked(t, n, ways, want)
	noOrder(t, n, ways, want)
	for _, from := range []int{0, n - 1, n, -1, math.MinInt, math.MaxInt} {
		noReach(t, n, ways, from, want)
	}
}

// isLoop asks for the least place on a loop.
func isLoop(t *testing.T, n int, ways [][2]int, want int) {
	t.Helper()
	if place, is, err := graph.Loop(n, ways); place != want || !is || err != nil {
		t.Errorf("Loop(%d, %d ways: %v): %d, %v, %v, not %d", n, len(ways), some(ways), place, is, err, want)
	}
}

// noLoop asks for no loop, and no error.
func noLoop(t *testing.T, n int, ways [][2]int) {
	t.Helper()
	if place, is, err := graph.Loop(n, ways); place != 0 || is || err != nil {
		t.Errorf("Loop(%d, %d ways: %v): %d, %v, %v, not none", n, len(ways), some(ways), place, is, err)
	}
}

// noLoopAsked asks for an error of Loop, and for nothing beside it.
func noLoopAsked(t *testing.T, n int, ways [][2]int, want api.Errno) {
	t.Helper()
	if place, is, err := graph.Loop(n, ways); place != 0 || is || !holds(err, want) {
		t.Errorf("Loop(%d, %d ways: %v): %d, %v, %v, not error %d", n, len(ways), some(ways), place, is, err, int(want))
	}
}

// isOrder asks for an order.
func isOrder(t *testing.T, n int, ways [][2]int, want ...int) {
	t.Helper()
	if order, err := graph.Order(n, ways); !slices.Equal(order, want) || err != nil {
		t.Errorf("Order(%d, %d ways: %v): %d places, %v, %v, not %v", n, len(ways), some(ways), len(order), few(order), err, few(want))
	}
}

// areDepths asks for depths.
func areDepths(t *testing.T, n int, ways [][2]int, want ...int) {
	t.Helper()
	if depths, err := graph.Depths(n, ways); !slices.Equal(depths, want) || err != nil {
		t.Errorf("Depths(%d, %d ways: %v): %d of them, %v, %v, not %v", n, len(ways), some(ways), len(depths), few(depths), err, few(want))
	}
}

// noOrder asks for an error of Order and of Depths, and for no list beside it.
func noOrder(t *testing.T, n int, ways [][2]int, want api.Errno) {
	t.Helper()
	if order, err := graph.Order(n, ways); len(order) != 0 || !holds(err, want) {
		t.Errorf("Order(%d, %d ways: %v): %v, %v, not error %d", n, len(ways), some(ways), few(order), err, int(want))
	}
	if depths, err := graph.Depths(n, ways); len(depths) != 0 || !holds(err, want) {
		t.Errorf("Depths(%d, %d ways: %v): %v, %v, not error %d", n, len(ways), some(ways), few(depths), err, int(want))
	}
}

// isReach asks for the places that are reached.
func isReach(t *testing.T, n int, ways [][2]int, from int, want ...int) {
	t.Helper()
	if places, err := graph.Reach(n, ways, from); !slices.Equal(places, want) || err != nil {
		t.Errorf("Reach(%d, %d ways: %v, %d): %d places, %v, %v, not %v", n, len(ways), some(ways), from, len(places), few(places), err, few(want))
	}
}

// noReach asks for an error of Reach, and for no list beside it.
func noReach(t *testing.T, n int, ways [][2]int, from int, want api.Errno) {
	t.Helper()
	if places, err := graph.Reach(n, ways, from); len(places) != 0 || !holds(err, want) {
		t.Errorf("Reach(%d, %d ways: %v, %d): %v, %v, not error %d", n, len(ways), some(ways), from, few(places), err, int(want))
	}
}

// plainLeads tells, for each place and each other one, whether one way or more lead there.
func plainLeads(n int, ways [][2]int) [][]bool {
	leads := make([][]bool, n)
	for i := range leads {
		leads[i] = make([]bool, n)
	}
	for _, way := range ways {
		leads[way[0]][way[1]] = true
	}
	for over := range n {
		for a := range n {
			for b := range n {
				if leads[a][over] && leads[over][b] {
					leads[a][b] = true
				}
			}
		}
	}
	return leads
}

// plainOrder are all places by the words of GR2, where no way leads back.
func plainOrder(n int, ways [][2]int) []int {
	var order []int
	for len(order) < n {
		isFree := func(place int) bool {
			return !slices.Contains(order, place) && !slices.ContainsFunc(ways, func(way [2]int) bool {
				return way[1] == place && !slices.Contains(order, way[0])
			})
		}
		order = append(order, slices.IndexFunc(numbers(0, n), isFree))
	}
	return order
}

// plainDepth is how many ways lead to a place at most, by trying each last one.
func plainDepth(ways [][2]int, place int) int {
	depth := 0
	for _, way := range ways {
		if way[1] == place {
			depth = max(depth, plainDepth(ways, way[0])+1)
		}
	}
	return depth
}

// isPlain holds all calls against the words alone.
func isPlain(t *testing.T, n int, ways [][2]int) {
	t.Helper()
	isFine(t, n, ways)
	leads := plainLeads(n, ways)
	for from := range n {
		var want []int
		for to := range n {
			if to == from || leads[from][to] {
				want = append(want, to)
			}
		}
		isReach(t, n, ways, from, want...)
	}
	if loop := slices.IndexFunc(numbers(0, n), func(i int) bool { return leads[i][i] }); loop >= 0 {
		isLoop(t, n, ways, loop)
		noOrder(t, n, ways, api.ErrLoop)
		return
	}
	noLoop(t, n, ways)
	isOrder(t, n, ways, plainOrder(n, ways)...)
	var depths []int
	for i := range n {
		depths = append(depths, plainDepth(ways, i))
	}
	areDepths(t, n, ways, depths...)
}

// anyWays are random ones.
func anyWays(r *rand.Rand, n, most int) [][2]int {
	if n == 0 {
		return nil
	}
	ways := make([][2]int, r.Intn(most+1))
	for i := range ways {
		ways[i] = [2]int{r.Intn(n), r.Intn(n)}
	}
	return ways
}

// upWays are random ones that don't lead back, along an order of the places that is random, too.
func upWays(r *rand.Rand, n, most int) [][2]int {
	order := r.Perm(n)
	var ways [][2]int
	for _, way := range anyWays(r, n, most) {
		if a, b := min(way[0], way[1]), max(way[0], way[1]); a != b {
			ways = append(ways, [2]int{order[a], order[b]})
		}
	}
	return ways
}

// The example of the chapter.
func TestExample(t *testing.T) {
	ways := list([2]int{2, 0}, [2]int{0, 1})
	isFine(t, 3, ways)
	noLoop(t, 3, ways)
	isOrder(t, 3, ways, 2, 0, 1)
	areDepths(t, 3, ways, 1, 2, 0)
	isReach(t, 3, ways, 0, 0, 1)
	isReach(t, 3, ways, 1, 1)
	isReach(t, 3, ways, 2, 0, 1, 2)
}

// GR1: from 0 to 4,096 places there may be.
func TestCheckHowManyPlaces(t *testing.T) {
	for _, n := range []int{0, 1, 2, 3, 4095, mostPlaces} {
		isFine(t, n, nil)
		isFine(t, n, [][2]int{})
		if n > 0 {
			isFine(t, n, list([2]int{0, n - 1}))
			isFine(t, n, list([2]int{n - 1, 0}))
			isFine(t, n, list([2]int{n - 1, n - 1}))
		}
	}
	for _, n := range wrongSizes {
		isRefused(t, n, nil, api.ErrLong)
		isRefused(t, n, [][2]int{}, api.ErrLong)
		// Whatever ends there are.
		for _, end := range []int{0, 1, n - 1, n, -1, math.MinInt, math.MaxInt} {
			isRefused(t, n, list([2]int{0, end}), api.ErrLong)
			isRefused(t, n, list([2]int{end, 0}), api.ErrLong)
			isRefused(t, n, list([2]int{end, end}), api.ErrLong)
		}
	}
}

// GR1: where there is no place, there is no way.
func TestCheckNoPlaces(t *testing.T) {
	for _, way := range [][2]int{{0, 0}, {0, 1}, {-1, -1}, {-1, 0}, {0, -1}, {1, 0}, {math.MinInt, math.MaxInt}} {
		isRefused(t, 0, list(way), api.ErrRange)
		isRefused(t, 0, list(way, way), api.ErrRange)
	}
}

// GR1: 1,048,576 ways there may be, and not one more, wherever they lead.
func TestCheckHowManyWays(t *testing.T) {
	ways := make([][2]int, mostWays+1)
	for i := range ways {
		ways[i] = [2]int{i % 3000, 3000 + i%1000}
	}
	isFine(t, mostPlaces, ways[:mostWays-1])
	isFine(t, mostPlaces, ways[:mostWays])
	isRefused(t, mostPlaces, ways, api.ErrLong)
	isRefused(t, 4000, ways, api.ErrLong)
	// Ends that are wrong are told only where there are not too many ways.
	for _, at := range []int{0, 77, mostWays - 1} {
		kept := ways[at]
		for _, way := range [][2]int{{-1, 5}, {5, mostPlaces}, {math.MaxInt, math.MinInt}} {
			ways[at] = way
			isRefused(t, mostPlaces, ways[:mostWays], api.ErrRange)
			isRefused(t, mostPlaces, ways, api.ErrLong)
		}
		ways[at] = kept
	}
	ways[mostWays] = [2]int{-1, -1}
	isFine(t, mostPlaces, ways[:mostWays])
	isRefused(t, mostPlaces, ways, api.ErrLong)
	for _, n := range []int{0, 1, -1, mostPlaces + 1} {
		isRefused(t, n, ways, api.ErrLong)
	}
}

// GR1: an end is from 0 to n - 1, of the first way and the last one, and both ends are looked at.
func TestCheckEnds(t *testing.T) {
	for _, n := range []int{1, 2, 3, 64, mostPlaces} {
		right := list([2]int{0, n - 1}, [2]int{0, 0}, [2]int{n - 1, n - 1}, [2]int{n / 2, n - 1})
		isFine(t, n, right)
		for at := range right {
			for _, end := range append(slices.Clone(noPlaces), n, n+1) {
				for _, way := range [][2]int{{end, 0}, {0, end}, {end, n - 1}, {n - 1, end}, {end, end}, {end, -1}} {
					ways := slices.Clone(right)
					ways[at] = way
					isRefused(t, n, ways, api.ErrRange)
					isRefused(t, n, list(way), api.ErrRange)
				}
			}
		}
	}
}

// GR1: a way may be there twice, and lead back, or to where it begins.
func TestCheckTakesLoops(t *testing.T) {
	isFine(t, 2, list([2]int{0, 1}, [2]int{0, 1}))
	isFine(t, 2, list([2]int{0, 1}, [2]int{1, 0}, [2]int{0, 1}))
	isFine(t, 1, list([2]int{0, 0}, [2]int{0, 0}))
}

// GR1: without ways, and where ways part and meet again, there is no loop.
func TestNoLoop(t *testing.T) {
	for _, n := range []int{0, 1, 2, 100, mostPlaces} {
		noLoop(t, n, nil)
		noLoop(t, n, [][2]int{})
		noLoop(t, n, line(n))
		noLoop(t, n, turned(line(n)))
	}
	noLoop(t, 2, list([2]int{0, 1}, [2]int{0, 1}))
	meeting := list([2]int{0, 1}, [2]int{0, 2}, [2]int{1, 3}, [2]int{2, 3}, [2]int{0, 3}, [2]int{1, 2})
	noLoop(t, 4, meeting)
	noLoop(t, 4, turned(meeting))
	noLoop(t, 6, append(meeting, [2]int{5, 0}, [2]int{4, 5}, [2]int{4, 3}))
}

// GR1: a place that leads to itself, by one way.
func TestLoopOfOne(t *testing.T) {
	for _, n := range []int{1, 2, 5, mostPlaces} {
		for _, place := range []int{0, n / 2, n - 1} {
			own := [2]int{place, place}
			isLoop(t, n, list(own), place)
			isLoop(t, n, list(own, own), place)
			isLoop(t, n, append(line(n), own), place)
			isLoop(t, n, append(list(own), turned(line(n))...), place)
		}
	}
}

// GR1: loops of two places, of three and of all there may be.
func TestLoopOfMore(t *testing.T) {
	isLoop(t, 2, list([2]int{0, 1}, [2]int{1, 0}), 0)
	isLoop(t, 9, list([2]int{7, 4}, [2]int{4, 7}), 4)
	isLoop(t, 9, list([2]int{4, 7}, [2]int{7, 4}), 4)
	for _, ring := range [][]int{{3, 5, 8}, {3, 8, 5}, {5, 3, 8}, {8, 5, 3}} {
		ways := list([2]int{ring[0], ring[1]}, [2]int{ring[1], ring[2]}, [2]int{ring[2], ring[0]})
		isLoop(t, 9, ways, 3)
		isLoop(t, 9, append(ways, ways...), 3)
		noLoop(t, 9, ways[:2])
		noLoop(t, 9, ways[1:])
	}
	all := append(line(mostPlaces), [2]int{mostPlaces - 1, 0})
	isLoop(t, mostPlaces, all, 0)
	isLoop(t, mostPlaces, turned(all), 0)
	isLoop(t, mostPlaces, moved(all, rand.New(rand.NewSource(1)).Perm(mostPlaces)), 0)
	// Not back to the begin, but to the place behind it.
	all[mostPlaces-1][1] = 1
	isLoop(t, mostPlaces, all, 1)
	all[mostPlaces-1][1] = mostPlaces - 2
	isLoop(t, mostPlaces, all, mostPlaces-2)
}

// GR1: of two loops the least place of both is told, whichever way comes first.
func TestLoopsOfTwo(t *testing.T) {
	for _, ways := range [][][2]int{
		list([2]int{5, 6}, [2]int{6, 5}, [2]int{2, 9}, [2]int{9, 2}),
		list([2]int{9, 2}, [2]int{2, 9}, [2]int{6, 5}, [2]int{5, 6}),
		list([2]int{2, 9}, [2]int{9, 2}, [2]int{5, 5}),
		list([2]int{5, 7}, [2]int{7, 5}, [2]int{2, 2}),
		// They meet in a place that is not the least one.
		list([2]int{5, 9}, [2]int{9, 5}, [2]int{2, 9}, [2]int{9, 2}),
		// One leads to the other.
		list([2]int{5, 6}, [2]int{6, 5}, [2]int{5, 2}, [2]int{2, 9}, [2]int{9, 2}),
		list([2]int{5, 6}, [2]int{6, 5}, [2]int{2, 5}, [2]int{2, 9}, [2]int{9, 2}),
	} {
		isLoop(t, 10, ways, 2)
	}
}

// GR1: a place that leads to a loop, or to which a loop leads, or that lies between two loops, is not on one.
func TestLoopNotBesideIt(t *testing.T) {
	isLoop(t, 5, list([2]int{0, 3}, [2]int{3, 4}, [2]int{4, 3}), 3)
	isLoop(t, 5, list([2]int{0, 4}, [2]int{1, 0}, [2]int{4, 3}, [2]int{3, 4}, [2]int{2, 2}), 2)
	isLoop(t, 5, list([2]int{3, 4}, [2]int{4, 3}, [2]int{4, 0}), 3)
	isLoop(t, 5, list([2]int{0, 4}, [2]int{4, 4}, [2]int{4, 1}), 4)
	between := list([2]int{5, 6}, [2]int{6, 5}, [2]int{6, 0}, [2]int{0, 1}, [2]int{1, 7}, [2]int{7, 8}, [2]int{8, 7})
	isLoop(t, 9, between, 5)
	isLoop(t, 9, turned(between), 5)
	isLoop(t, 9, append(between, [2]int{2, 2}), 2)
	isLoop(t, 9, append(between, [2]int{8, 1}), 1)
	isLoop(t, 9, append(between, [2]int{8, 6}), 0)
}

// GR1: as many ways as there may be, with a loop and without.
func TestLoopAmongMostWays(t *testing.T) {
	ways := dense()
	noLoop(t, mostPlaces, ways)
	noLoop(t, mostPlaces, turned(ways))
	ways[mostWays-1] = [2]int{4000, 4000}
	isLoop(t, mostPlaces, ways, 4000)
	ways[mostWays-1] = [2]int{1600, 700}
	isLoop(t, mostPlaces, ways, 700)
	ways[mostWays-1] = [2]int{2000, 511}
	isLoop(t, mostPlaces, turned(ways), 511)
}

// GR2: where there is a loop, there is neither an order nor a depth.
func TestOrderOfLoops(t *testing.T) {
	for _, ways := range [][][2]int{
		list([2]int{0, 0}),
		list([2]int{4, 4}),
		list([2]int{1, 2}, [2]int{2, 1}),
		list([2]int{4, 0}, [2]int{0, 4}),
		list([2]int{1, 2}, [2]int{2, 3}, [2]int{3, 1}),
		list([2]int{3, 2}, [2]int{2, 0}, [2]int{0, 3}),
		list([2]int{0, 1}, [2]int{1, 2}, [2]int{2, 3}, [2]int{3, 2}, [2]int{3, 4}),
		list([2]int{2, 2}, [2]int{2, 3}, [2]int{2, 4}),
		append(line(5), [2]int{4, 0}),
	} {
		noOrder(t, 5, ways, api.ErrLoop)
		noOrder(t, 5, turned(ways), api.ErrLoop)
		noOrder(t, mostPlaces, ways, api.ErrLoop)
	}
	noOrder(t, mostPlaces, append(line(mostPlaces), [2]int{mostPlaces - 1, 0}), api.ErrLoop)
	noOrder(t, mostPlaces, append(line(mostPlaces), [2]int{mostPlaces - 1, mostPlaces - 1}), api.ErrLoop)
}

// GR2: without ways the order is that of the numbers.
func TestOrderWithoutWays(t *testing.T) {
	for _, n := range []int{0, 1, 2, 3, 100, mostPlaces} {
		for _, ways := range [][][2]int{nil, {}} {
			isOrder(t, n, ways, numbers(0, n)...)
			areDepths(t, n, ways, make([]int, n)...)
		}
	}
}

// GR2: at each step the least place comes of all that are free by then, even if it became so only now.
func TestOrderTakesTheLeast(t *testing.T) {
	isOrder(t, 5, list([2]int{2, 0}), 1, 2, 0, 3, 4)
	isOrder(t, 5, list([2]int{4, 0}), 1, 2, 3, 4, 0)
	isOrder(t, 5, list([2]int{4, 0}, [2]int{4, 1}), 2, 3, 4, 0, 1)
	isOrder(t, 5, list([2]int{4, 1}, [2]int{4, 0}), 2, 3, 4, 0, 1)
	isOrder(t, 5, list([2]int{1, 0}, [2]int{3, 0}), 1, 2, 3, 0, 4)
	isOrder(t, 6, list([2]int{0, 5}, [2]int{1, 5}, [2]int{5, 2}), 0, 1, 3, 4, 5, 2)
	// One that became free and greater ones that were so before.
	isOrder(t, 6, list([2]int{0, 4}, [2]int{4, 1}), 0, 2, 3, 4, 1, 5)
	// One that leads back, and one that waits on with no other between.
	isOrder(t, 6, list([2]int{5, 3}, [2]int{3, 1}, [2]int{3, 4}, [2]int{4, 0}), 2, 5, 3, 1, 4, 0)
	// Not row by row: 3 is free behind 0, ahead of 1 it isn't, as it is not the least.
	isOrder(t, 4, list([2]int{0, 3}, [2]int{1, 2}), 0, 1, 2, 3)
	// A place is behind all that lead to it, not behind the first of them.
	isOrder(t, 4, list([2]int{1, 0}, [2]int{2, 0}, [2]int{3, 0}), 1, 2, 3, 0)
}

// GR2: ways that are there twice are as there once.
func TestOrderOfWaysTwice(t *testing.T) {
	ways := list([2]int{2, 0}, [2]int{0, 1}, [2]int{3, 1})
	for _, twice := range [][][2]int{append(ways, ways...), append(ways, [2]int{2, 0}), append(list([2]int{0, 1}, [2]int{0, 1}), ways...), slices.Repeat(ways, 1000)} {
		isOrder(t, 4, twice, 2, 0, 3, 1)
		areDepths(t, 4, twice, 1, 2, 0, 0)
		isReach(t, 4, twice, 2, 0, 1, 2)
		noLoop(t, 4, twice)
	}
}

// GR2: a depth is that of the longest of the lines of ways that lead to a place, in whatever order they are told.
func TestDepthsOfTwoLines(t *testing.T) {
	for _, ways := range [][][2]int{
		list([2]int{0, 1}, [2]int{1, 2}, [2]int{2, 4}, [2]int{3, 4}, [2]int{0, 4}),
		list([2]int{0, 4}, [2]int{3, 4}, [2]int{2, 4}, [2]int{1, 2}, [2]int{0, 1}),
		list([2]int{2, 4}, [2]int{0, 1}, [2]int{0, 4}, [2]int{1, 2}, [2]int{3, 4}),
	} {
		areDepths(t, 5, ways, 0, 1, 2, 0, 3)
		areDepths(t, 6, append(ways, [2]int{4, 5}), 0, 1, 2, 0, 3, 4)
		areDepths(t, 6, append(ways, [2]int{5, 3}), 0, 1, 2, 1, 3, 0)
		areDepths(t, 6, append(ways, [2]int{5, 0}), 1, 2, 3, 0, 4, 0)
		areDepths(t, 5, turned(ways), 3, 2, 1, 1, 0)
	}
}

// GR2: a line of all places, either way round, and one along which they don't ascend.
func TestOrderOfALine(t *testing.T) {
	for _, n := range []int{1, 2, 3, 100, mostPlaces} {
		up := numbers(0, n)
		down := slices.Clone(up)
		slices.Reverse(down)
		isOrder(t, n, line(n), up...)
		areDepths(t, n, line(n), up...)
		isOrder(t, n, turned(line(n)), down...)
		areDepths(t, n, turned(line(n)), down...)
		order := rand.New(rand.NewSource(2)).Perm(n)
		depths := make([]int, n)
		for i, place := range order {
			depths[place] = i
		}
		isOrder(t, n, moved(line(n), order), order...)
		areDepths(t, n, moved(line(n), order), depths...)
	}
}

// GR2, GR3: as many ways as there may be are gone in time.
func TestMostWays(t *testing.T) {
	const row = 512
	ways := dense()
	// Behind the four rows stand the places without ways.
	depths := make([]int, mostPlaces)
	for place := range 4 * row {
		depths[place] = place / row
	}
	isOrder(t, mostPlaces, ways, numbers(0, mostPlaces)...)
	areDepths(t, mostPlaces, ways, depths...)
	for _, place := range []int{0, row - 1} {
		isReach(t, mostPlaces, ways, place, append([]int{place}, numbers(row, 4*row)...)...)
	}
	isReach(t, mostPlaces, ways, 3*row, 3*row)
	isReach(t, mostPlaces, ways, 4*row, 4*row)
	back := turned(ways)
	isOrder(t, 4*row, back, slices.Concat(numbers(3*row, 4*row), numbers(2*row, 3*row), numbers(row, 2*row), numbers(0, row))...)
	slices.Reverse(depths[:4*row])
	areDepths(t, mostPlaces, back, depths...)
	isReach(t, mostPlaces, back, 4*row-1, append(numbers(0, 3*row), 4*row-1)...)
	isReach(t, mostPlaces, back, 0, 0)
	ways[mostWays-1] = [2]int{4*row - 1, 0}
	noOrder(t, mostPlaces, ways, api.ErrLoop)
}

// GR2, GR3: more lines of ways than can be gone, one by one, are gone all the same: each place leads to the next one and to the one behind that.
func TestLadder(t *testing.T) {
	ways := append(line(mostPlaces), line(mostPlaces)...)
	for i := range mostPlaces - 2 {
		ways = append(ways, [2]int{i, i + 2})
	}
	noLoop(t, mostPlaces, ways)
	isOrder(t, mostPlaces, ways, numbers(0, mostPlaces)...)
	areDepths(t, mostPlaces, ways, numbers(0, mostPlaces)...)
	isReach(t, mostPlaces, ways, 0, numbers(0, mostPlaces)...)
	isReach(t, mostPlaces, ways, 4000, numbers(4000, mostPlaces)...)
	ways = append(ways, [2]int{mostPlaces - 1, 2000})
	isLoop(t, mostPlaces, ways, 2000)
	noOrder(t, mostPlaces, ways, api.ErrLoop)
	isReach(t, mostPlaces, ways, 3000, numbers(2000, mostPlaces)...)
}

// GR2: many places that become free at once, or are free at once, and the least of them is the last one.
func TestOrderOfStars(t *testing.T) {
	const last = mostPlaces - 1
	var out, in [][2]int
	for i := range last {
		out = append(out, [2]int{last, i})
		in = append(in, [2]int{i + 1, 0})
	}
	isOrder(t, mostPlaces, out, append([]int{last}, numbers(0, last)...)...)
	isOrder(t, mostPlaces, in, append(numbers(1, mostPlaces), 0)...)
	areDepths(t, mostPlaces, in, append([]int{1}, make([]int, last)...)...)
	isReach(t, mostPlaces, out, last, numbers(0, mostPlaces)...)
	isReach(t, mostPlaces, out, 7, 7)
	isReach(t, mostPlaces, in, 7, 0, 7)
}

// GR3: a place reaches itself, by ways or not.
func TestReachItself(t *testing.T) {
	for _, n := range []int{1, 2, 5, mostPlaces} {
		for _, from := range []int{0, n / 2, n - 1} {
			isReach(t, n, nil, from, from)
			isReach(t, n, [][2]int{}, from, from)
			isReach(t, n, list([2]int{from, from}), from, from)
			isReach(t, n, list([2]int{from, from}, [2]int{from, from}), from, from)
		}
	}
}

// GR3: from each place of ordinary ways, along them and not against them.
func TestReach(t *testing.T) {
	ways := list([2]int{6, 2}, [2]int{2, 4}, [2]int{2, 0}, [2]int{4, 0}, [2]int{1, 0}, [2]int{5, 3})
	for from, want := range [][]int{{0}, {0, 1}, {0, 2, 4}, {3}, {0, 4}, {3, 5}, {0, 2, 4, 6}, {7}} {
		isReach(t, 8, ways, from, want...)
	}
	for from, want := range [][]int{{0, 1, 2, 4, 6}, {1}, {2, 6}, {3, 5}, {2, 4, 6}, {5}, {6}, {7}} {
		isReach(t, 8, turned(ways), from, want...)
	}
	for _, from := range []int{0, 1, 2000, mostPlaces - 1} {
		isReach(t, mostPlaces, line(mostPlaces), from, numbers(from, mostPlaces)...)
		isReach(t, mostPlaces, turned(line(mostPlaces)), from, numbers(0, from+1)...)
	}
}

// GR3: within a loop each place reaches all of it; from a place ahead of it, too; not back from behind it.
func TestReachWithinALoop(t *testing.T) {
	ways := list([2]int{4, 1}, [2]int{1, 3}, [2]int{3, 4}, [2]int{0, 3}, [2]int{1, 2}, [2]int{5, 0}, [2]int{2, 2})
	for from, want := range [][]int{{0, 1, 2, 3, 4}, {1, 2, 3, 4}, {2}, {1, 2, 3, 4}, {1, 2, 3, 4}, {0, 1, 2, 3, 4, 5}} {
		isReach(t, 6, ways, from, want...)
	}
	all := append(line(mostPlaces), [2]int{mostPlaces - 1, 0})
	for _, from := range []int{0, 1, 2000, mostPlaces - 1} {
		isReach(t, mostPlaces, all, from, numbers(0, mostPlaces)...)
		isReach(t, mostPlaces, turned(all), from, numbers(0, mostPlaces)...)
	}
}

// GR3: a place that is none reaches nothing, not even itself; Check's error comes ahead of that.
func TestReachFromNone(t *testing.T) {
	for _, n := range []int{0, 1, 2, 3, mostPlaces} {
		for _, from := range append(slices.Clone(noPlaces), n, n+1) {
			noReach(t, n, nil, from, api.ErrRange)
			if n > 0 {
				noReach(t, n, list([2]int{0, n - 1}, [2]int{n - 1, 0}), from, api.ErrRange)
			}
			noReach(t, n, make([][2]int, mostWays+1), from, api.ErrLong)
		}
	}
	noReach(t, 0, nil, 0, api.ErrRange)
	for _, n := range wrongSizes {
		for _, from := range append(slices.Clone(noPlaces), 0, n-1, n) {
			noReach(t, n, nil, from, api.ErrLong)
		}
	}
}

// GR1 to GR3: all ways there are of up to four places.
func TestAllOfFew(t *testing.T) {
	for n := range 5 {
		for bits := range 1 << (n * n) {
			var ways [][2]int
			for i := range n * n {
				if bits>>i&1 == 1 {
					ways = append(ways, [2]int{i / n, i % n})
				}
			}
			isPlain(t, n, ways)
			if t.Failed() {
				return
			}
		}
	}
}

// GR1 to GR3: random ways of some places, of which some are there twice, are as the words say.
func TestSomeWays(t *testing.T) {
	r := rand.New(rand.NewSource(3))
	loops, orders := 0, 0
	for range 6000 {
		n := r.Intn(14)
		for _, ways := range [][][2]int{anyWays(r, n, n), anyWays(r, n, 3*n), upWays(r, n, 2*n), upWays(r, n, 4*n)} {
			isPlain(t, n, ways)
			if _, is, _ := graph.Loop(n, ways); is {
				loops++
			} else {
				orders++
			}
		}
		if t.Failed() {
			return
		}
	}
	if loops < 1000 || orders < 1000 {
		t.Errorf("only %d with loops, and %d without", loops, orders)
	}
}

// leadsOn tells whether each way leads to a place behind its begin, and of more depth; whether all places are there once.
func leadsOn(n int, ways [][2]int, order, depths []int) bool {
	at := make([]int, n)
	for i, place := range order {
		at[place] = i
	}
	sorted := slices.Clone(order)
	slices.Sort(sorted)
	return slices.Equal(sorted, numbers(0, n)) && len(depths) == n && !slices.ContainsFunc(ways, func(way [2]int) bool {
		return at[way[1]] <= at[way[0]] || depths[way[1]] <= depths[way[0]]
	})
}

// leadsBack tells whether some place is reached again from where one of its ways leads.
func leadsBack(t *testing.T, n int, ways [][2]int) bool {
	reached := make([][]int, n)
	for from := range n {
		places, err := graph.Reach(n, ways, from)
		if err != nil {
			t.Errorf("Reach(%d, %v, %d): %v", n, some(ways), from, err)
		}
		reached[from] = places
	}
	return slices.ContainsFunc(ways, func(way [2]int) bool { return slices.Contains(reached[way[1]], way[0]) })
}

// GR4: ways lead on in the order and to more depth, or some place is reached again.
func TestWaysLeadOn(t *testing.T) {
	r := rand.New(rand.NewSource(4))
	loops, orders := 0, 0
	for range 1500 {
		n := 1 + r.Intn(60)
		for _, ways := range [][][2]int{anyWays(r, n, n), anyWays(r, n, n/3), upWays(r, n, 2*n), upWays(r, n, n*n)} {
			order, err := graph.Order(n, ways)
			depths, depthsErr := graph.Depths(n, ways)
			switch {
			case err == nil && depthsErr == nil:
				orders++
				if !leadsOn(n, ways, order, depths) {
					t.Fatalf("%d, %v: the order %v, the depths %v", n, ways, order, depths)
				}
			case holds(err, api.ErrLoop) && holds(depthsErr, api.ErrLoop):
				loops++
			default:
				t.Fatalf("%d, %v: %v, %v", n, ways, err, depthsErr)
			}
			if leadsBack(t, n, ways) != (err != nil) {
				t.Fatalf("%d, %v: %v, but it is otherwise by Reach", n, ways, err)
			}
		}
	}
	if loops < 500 || orders < 500 {
		t.Errorf("only %d with loops, and %d without", loops, orders)
	}
}

// GR4: so with all there may be of places, and of ways.
func TestMostWaysLeadOn(t *testing.T) {
	r := rand.New(rand.NewSource(5))
	for _, most := range []int{mostPlaces, 10 * mostPlaces, mostWays} {
		ways := upWays(r, mostPlaces, most)
		order, err := graph.Order(mostPlaces, ways)
		depths, depthsErr := graph.Depths(mostPlaces, ways)
		if err != nil || depthsErr != nil || !leadsOn(mostPlaces, ways, order, depths) {
			t.Errorf("%d ways: %v, %v, the order %v, the depths %v", len(ways), err, depthsErr, few(order), few(depths))
		}
		noLoop(t, mostPlaces, ways)
	}
}

// askAll asks all calls, those that answer an error too.
func askAll(n int, ways [][2]int) {
	_ = graph.Check(n, ways)
	_, _, _ = graph.Loop(n, ways)
	_, _ = graph.Order(n, ways)
	_, _ = graph.Depths(n, ways)
	for _, from := range []int{0, n - 1, n, -1} {
		_, _ = graph.Reach(n, ways, from)
	}
}

// What is handed in is not changed, nor the spare room behind it.
func TestHandedInIsNotChanged(t *testing.T) {
	r := rand.New(rand.NewSource(6))
	for k := range 3000 {
		n := 1 + r.Intn(10)
		ways := anyWays(r, n, 12)
		if k%3 == 0 {
			ways = upWays(r, n, 12)
		}
		if k%5 == 0 {
			ways = append(ways, [2]int{n, -1})
		}
		roomy := append(make([][2]int, 0, len(ways)+4), ways...)
		whole := roomy[:cap(roomy)]
		for i := len(roomy); i < len(whole); i++ {
			whole[i] = [2]int{-7, 7}
		}
		was := slices.Clone(whole)
		askAll(n, roomy)
		if !slices.Equal(whole, was) {
			t.Fatalf("%d, %v: %v is left", n, ways, whole)
		}
	}
}

// lists are the answers of all calls that answer a list.
func lists(t *testing.T, n int, ways [][2]int, from int) [][]int {
	t.Helper()
	order, err := graph.Order(n, ways)
	depths, depthsErr := graph.Depths(n, ways)
	places, placesErr := graph.Reach(n, ways, from)
	if err != nil || depthsErr != nil || placesErr != nil {
		t.Errorf("%d, %v: %v, %v, %v", n, some(ways), err, depthsErr, placesErr)
	}
	return [][]int{order, depths, places}
}

// copyOf are lists that share nothing with others.
func copyOf(l [][]int) [][]int {
	c := make([][]int, len(l))
	for i := range l {
		c[i] = slices.Clone(l[i])
	}
	return c
}

// spoil changes all that lists hold, spare room too.
func spoil(l [][]int) {
	for _, places := range l {
		places = places[:cap(places)]
		for i := range places {
			places[i] = -7
		}
	}
}

// An answer is new memory: what is done to it, and to its spare room, is seen in nothing else; nothing is kept from call to call.
func TestAnswersAreNew(t *testing.T) {
	r := rand.New(rand.NewSource(7))
	for range 2000 {
		n := 1 + r.Intn(20)
		ways := upWays(r, n, 2*n)
		from := r.Intn(n)
		was := slices.Clone(ways)
		one, two := lists(t, n, ways, from), lists(t, n, ways, from)
		want := copyOf(one)
		spoil(one)
		three := lists(t, n, ways, from)
		if !slices.EqualFunc(two, want, slices.Equal) || !slices.EqualFunc(three, want, slices.Equal) || !slices.Equal(ways, was) {
			t.Fatalf("%d, %v, after an answer was changed: %v, %v, %v, not %v", n, was, two, three, ways, want)
		}
		for i := range two {
			spoil(two[i : i+1])
			if !slices.EqualFunc(two[i+1:], want[i+1:], slices.Equal) {
				t.Fatalf("%d, %v, after the list %d was changed: %v, not %v", n, was, i, two, want)
			}
		}
		// Other ways in the same memory are others.
		for i := range ways {
			ways[i] = [2]int{n - 1, n - 1}
		}
		if !slices.EqualFunc(three, want, slices.Equal) {
			t.Fatalf("%d, %v, after these were changed: %v, not %v", n, was, three, want)
		}
		if len(ways) > 0 {
			isPlain(t, n, ways)
		}
	}
}

// FuzzGraph holds all calls against the words alone, with ways of any bytes.
func FuzzGraph(f *testing.F) {
	f.Add(byte(3), "\x02\x00\x00\x01")
	f.Add(byte(5), "\x00\x01\x01\x02\x02\x01")
	f.Add(byte(9), "\x05\x06\x06\x05\x06\x00\x00\x07\x07\x08\x08\x07")
	f.Fuzz(func(t *testing.T, places byte, ends string) {
		n := int(places%12) + 1
		var ways [][2]int
		for i := 1; i < min(len(ends), 32); i += 2 {
			ways = append(ways, [2]int{int(ends[i-1]) % n, int(ends[i]) % n})
		}
		isPlain(t, n, ways)
	})
}
