package period_test

import (
	"errors"
	"math"
	"math/rand"
	"reflect"
	"slices"
	"testing"

	"belvedere/api"
	"belvedere/civil"
	"belvedere/clock"
	"belvedere/period"
	"belvedere/rule"
)

const (
	mostDays   = 1 << 46
	mostOffset = 50400
	lastTime   = 1 << 62
	// The last time lies on this day, a Tuesday, at this second of it.
	lastDay    = 53375995583650
	lastSecond = 27904
)

// monday is a day of that name, the 25th of May 2026: the last Monday of that month.
const monday = 20598

// offsets are ordinary ones, and those at both ends.
var offsets = []int{0, 1, -1, 3600, -3600, 19800, -12600, mostOffset, -mostOffset}

// wrongInts are numbers of no period.
var wrongInts = []int{-1, -2, -64, 1 << 32, -1 << 32, math.MaxInt, math.MinInt}

// wrongRules may not be.
var wrongRules = []rule.Rule{
	{Kind: -1}, {Kind: 4}, {Kind: rule.MonthDay}, {Kind: rule.Nth}, {Kind: rule.Dates},
	{Weekday: 7}, {Weekday: -1}, {Weekday: 1, N: 1}, {Weekday: 1, Month: 1},
	{Kind: rule.MonthDay, N: 32}, {Kind: rule.MonthDay, Month: 13, N: 1},
	{Kind: rule.Nth, Month: 1, N: 6}, {Kind: rule.Nth, Month: 1, N: 1, Weekday: 7},
	{Kind: rule.Dates, From: civil.Date{Y: 2026, M: 5, D: 2}, To: civil.Date{Y: 2026, M: 5, D: 1}},
	{Kind: rule.Dates, From: civil.Date{Y: 2026, M: 2, D: 29}, To: civil.Date{Y: 2026, M: 5, D: 1}},
	{Kind: rule.Dates, From: civil.Date{Y: 2026, M: 5, D: 1}, To: civil.Date{Y: 10000, M: 1, D: 1}},
}

// wrongSpans may not be.
var wrongSpans = []period.Span{
	{From: -1, To: 1}, {From: -1, To: 0}, {From: -1, To: 86400}, {From: -2, To: -1}, {From: math.MinInt, To: 5}, {From: math.MinInt, To: math.MaxInt},
	{From: 0, To: 86401}, {From: 86399, To: 86401}, {From: 86400, To: 86401}, {From: 0, To: math.MaxInt}, {From: 1 << 32, To: 1<<32 + 60}, {From: 0, To: 1<<32 + 60},
	{}, {From: 1, To: 1}, {From: 43200, To: 43200}, {From: 86400, To: 86400},
	{From: 2, To: 1}, {From: 1, To: 0}, {From: 86400, To: 0}, {From: 86400, To: 86399}, {From: 43200, To: 3600}, {From: math.MaxInt, To: math.MinInt}, {From: 5, To: -5},
}

// holds tells whether an error is just that number.
func holds(err error, want api.Errno) bool {
	var got api.Errno
	return errors.As(err, &got) && got == want
}

// span is one from a second on up to another one.
func span(from, to int) period.Span { return period.Span{From: from, To: to} }

// weekday is an entry for the days of a weekday.
func weekday(w int, spans ...period.Span) period.Entry {
	return period.Entry{Rule: rule.Rule{Kind: rule.Weekday, Weekday: w}, Spans: spans}
}

// monthDay is an entry for a day of a month.
func monthDay(m, n int, spans ...period.Span) period.Entry {
	return period.Entry{Rule: rule.Rule{Kind: rule.MonthDay, Month: m, N: n}, Spans: spans}
}

// dates is an entry for the days from one up to another one, both too.
func dates(from, to civil.Date, spans ...period.Span) period.Entry {
	return period.Entry{Rule: rule.Rule{Kind: rule.Dates, From: from, To: to}, Spans: spans}
}

// of is a period of entries.
func of(entries ...period.Entry) period.Period { return period.Period{Entries: entries} }

// daily is a period of spans of all days.
func daily(spans ...period.Span) period.Period {
	var p period.Period
	for w := range 7 {
		p.Entries = append(p.Entries, weekday(w, slices.Clone(spans)...))
	}
	// Without spare room, many periods may have these entries, and each others behind them.
	p.Entries = slices.Clip(p.Entries)
	return p
}

// but is a period, but what others have.
func but(p period.Period, others ...int) period.Period {
	p.Exclude = others
	return p
}

// excludes is a period of all times, but what others have.
func excludes(others ...int) period.Period { return but(daily(span(0, api.Day)), others...) }

// list are periods, each with its number.
func list(all ...period.Period) []period.Period { return all }

// many are so many things that are the same.
func many[T any](n int, one T) []T {
	all := make([]T, n)
	for i := range all {
		all[i] = one
	}
	return all
}

// isSet asks for periods that may be.
func isSet(t *testing.T, set []period.Period) {
	t.Helper()
	if err := period.Check(set); err != nil {
		t.Errorf("Check of %d periods: %v", len(set), err)
	}
}

// notIn asks for an error of In.
func notIn(t *testing.T, set []period.Period, i, at, offset int, want api.Errno) {
	t.Helper()
	if is, err := period.In(set, i, at, offset); is || !holds(err, want) {
		t.Errorf("In(%d, %d, %d): %v, %v, not error %d", i, at, offset, is, err, int(want))
	}
}

// notNext asks for an error of Next.
func notNext(t *testing.T, set []period.Period, i, at, offset, within int, want api.Errno) {
	t.Helper()
	if x, is, err := period.Next(set, i, at, offset, within); x != 0 || is || !holds(err, want) {
		t.Errorf("Next(%d, %d, %d, %d): %d, %v, %v, not error %d", i, at, offset, within, x, is, err, int(want))
	}
}

// notDay asks for an error of Day.
func notDay(t *testing.T, set []period.Period, i, day int, want api.Errno) {
	t.Helper()
	if spans, err := period.Day(set, i, day); len(spans) != 0 || !holds(err, want) {
		t.Errorf("Day(%d, %d): %v, %v, not error %d", i, day, spans, err, int(want))
	}
}

// notSet asks for periods that may not be, by all that takes them, whatever else is wrong.
func notSet(t *testing.T, set []period.Period, want api.Errno) {
	t.Helper()
	if err := period.Check(set); !holds(err, want) {
		t.Errorf("Check of %d periods: %v, not error %d", len(set), err, int(want))
	}
	for _, i := range []int{0, -1, len(set)} {
		for _, at := range []int{0, -1} {
			notIn(t, set, i, at, 0, want)
			notIn(t, set, i, at, mostOffset+1, want)
			notNext(t, set, i, at, 0, 0, want)
			notNext(t, set, i, at, 0, -1, want)
		}
		notDay(t, set, i, 0, want)
		notDay(t, set, i, mostDays+1, want)
	}
}

// isIn asks whether a time is in a period.
func isIn(t *testing.T, set []period.Period, i, at, offset int, want bool) {
	t.Helper()
	if is, err := period.In(set, i, at, offset); is != want || err != nil {
		t.Errorf("In(%d, %d, %d): %v, %v, not %v", i, at, offset, is, err, want)
	}
}

// isNext asks for the first time that is in a period.
func isNext(t *testing.T, set []period.Period, i, at, offset, within, want int) {
	t.Helper()
	if x, is, err := period.Next(set, i, at, offset, within); x != want || !is || err != nil {
		t.Errorf("Next(%d, %d, %d, %d): %d, %v, %v, not %d", i, at, offset, within, x, is, err, want)
	}
}

// noneNext asks for there being no such time.
func noneNext(t *testing.T, set []period.Period, i, at, offset, within int) {
	t.Helper()
	if x, is, err := period.Next(set, i, at, offset, within); x != 0 || is || err != nil {
		t.Errorf("Next(%d, %d, %d, %d): %d, %v, %v, not none", i, at, offset, within, x, is, err)
	}
}

// isDay asks for the seconds of a day that are in a period.
func isDay(t *testing.T, set []period.Period, i, day int, want ...period.Span) {
	t.Helper()
	if spans, err := period.Day(set, i, day); !slices.Equal(spans, want) || err != nil {
		t.Errorf("Day(%d, %d): %v, %v, not %v", i, day, spans, err, want)
	}
}

// plain tells by the words alone whether a second of a day is in a period.
func plain(t *testing.T, set []period.Period, i, day, second int) bool {
	t.Helper()
	for _, x := range set[i].Exclude {
		if plain(t, set, x, day, second) {
			return false
		}
	}
	for _, e := range set[i].Entries {
		yes, err := rule.Match(e.Rule, day)
		if err != nil {
			t.Fatalf("Match(%v, %d): %v", e.Rule, day, err)
		}
		for _, s := range e.Spans {
			if yes && s.From <= second && second < s.To {
				return true
			}
		}
	}
	return false
}

// edges are the seconds of a day at which periods may change, with those ahead of them, and both ends.
func edges(set []period.Period) []int {
	all := []int{0, api.Day - 1}
	for _, p := range set {
		for _, e := range p.Entries {
			for _, s := range e.Spans {
				all = append(all, s.From-1, s.From, s.To-1, s.To)
			}
		}
	}
	slices.Sort(all)
	return slices.DeleteFunc(slices.Compact(all), func(s int) bool { return s < 0 || s >= api.Day })
}

// plainDay are the seconds of a day that are in a period, told by the words alone, at all seconds where that may change.
func plainDay(t *testing.T, set []period.Period, i, day int) []period.Span {
	t.Helper()
	var all []period.Span
	open := false
	for _, second := range edges(set) {
		is := plain(t, set, i, day, second)
		if is && !open {
			all = append(all, span(second, 0))
		}
		if !is && open {
			all[len(all)-1].To = second
		}
		open = is
	}
	if open {
		all[len(all)-1].To = api.Day
	}
	return all
}

// someRule is any rule that may be, one that means days around the year 2026 more often than not.
func someRule(r *rand.Rand) rule.Rule {
	place := func(most int) int { return (r.Intn(most) + 1) * (1 - 2*r.Intn(2)) }
	switch r.Intn(4) {
	case 0:
		return rule.Rule{Kind: rule.Weekday, Weekday: r.Intn(7)}
	case 1:
		return rule.Rule{Kind: rule.MonthDay, Month: r.Intn(13) * r.Intn(2), N: place(31)}
	case 2:
		return rule.Rule{Kind: rule.Nth, Month: r.Intn(13) * r.Intn(2), N: place(5), Weekday: r.Intn(7)}
	default:
		from := civil.Date{Y: 2025 + r.Intn(2), M: r.Intn(12) + 1, D: r.Intn(28) + 1}
		return rule.Rule{Kind: rule.Dates, From: from, To: civil.Date{Y: 2027, M: r.Intn(12) + 1, D: r.Intn(28) + 1}}
	}
}

// someSpan is any span, a short one or a long one, at any second or at one around a multiple of 64 or of an hour.
func someSpan(r *rand.Rand) period.Span {
	second := func() int {
		switch r.Intn(4) {
		case 0:
			return r.Intn(1351)*64 + r.Intn(3) - 1
		case 1:
			return r.Intn(25) * 3600
		default:
			return r.Intn(api.Day + 1)
		}
	}
	for {
		from := second()
		to := second()
		if r.Intn(2) == 0 {
			to = from + 1 + r.Intn(200)
		}
		if 0 <= from && from < to && to <= api.Day {
			return span(from, to)
		}
	}
}

// some are any periods that may be, in any order.
func some(r *rand.Rand) []period.Period {
	set := make([]period.Period, r.Intn(6)+1)
	order := r.Perm(len(set))
	for place, i := range order {
		for range r.Intn(5) {
			e := period.Entry{Rule: someRule(r)}
			for range r.Intn(5) {
				e.Spans = append(e.Spans, someSpan(r))
			}
			set[i].Entries = append(set[i].Entries, e)
		}
		for _, x := range order[:place] {
			if r.Intn(3) == 0 {
				set[i].Exclude = append(set[i].Exclude, x)
			}
		}
	}
	return set
}

// PD1: no periods, few, 64 of them, and more.
func TestCheckHowManyPeriods(t *testing.T) {
	isSet(t, nil)
	isSet(t, []period.Period{})
	for _, n := range []int{1, 2, 63, 64} {
		isSet(t, make([]period.Period, n))
		isSet(t, many(n, daily(span(0, 60))))
	}
	for _, n := range []int{65, 66, 128, 1 << 20} {
		notSet(t, make([]period.Period, n), api.ErrLong)
		notSet(t, many(n, daily(span(0, 60))), api.ErrLong)
	}
}

// places gives periods with one of them in each place: alone, first, in the middle, last and last of 64.
func places(p period.Period, try func(set []period.Period)) {
	var no period.Period
	try(list(p))
	try(list(p, no, no))
	try(list(no, p, no))
	try(list(no, no, p))
	try(append(make([]period.Period, 63), p))
}

// PD1: a period of no entries, of few, of 64, and of more.
func TestCheckHowManyEntries(t *testing.T) {
	for _, n := range []int{0, 1, 63, 64} {
		places(of(many(n, weekday(1, span(0, 60)))...), func(set []period.Period) { isSet(t, set) })
	}
	for _, n := range []int{65, 66, 1 << 16} {
		places(of(many(n, weekday(1, span(0, 60)))...), func(set []period.Period) { notSet(t, set, api.ErrLong) })
	}
	isSet(t, many(64, of(many(64, weekday(1))...)))
}

// PD1: an entry of no spans, of few, of 32, and of more, the first or the last.
func TestCheckHowManySpans(t *testing.T) {
	in := func(n int, try func(set []period.Period)) {
		e := weekday(1, many(n, span(0, 60))...)
		places(of(e), try)
		places(of(e, weekday(2), weekday(3)), try)
		places(of(weekday(2), weekday(3), e), try)
		places(of(append(many(63, weekday(2)), e)...), try)
	}
	for _, n := range []int{0, 1, 31, 32} {
		in(n, func(set []period.Period) { isSet(t, set) })
	}
	for _, n := range []int{33, 34, 64, 1 << 12} {
		in(n, func(set []period.Period) { notSet(t, set, api.ErrLong) })
	}
}

// PD1: a period that excludes none, few, 64 (one often, too), and more.
func TestCheckHowManyExcludes(t *testing.T) {
	var no period.Period
	for _, n := range []int{0, 1, 63, 64} {
		isSet(t, list(excludes(many(n, 1)...), no))
		isSet(t, list(no, excludes(many(n, 0)...)))
	}
	for _, n := range []int{65, 66, 1 << 16} {
		notSet(t, list(excludes(many(n, 1)...), no), api.ErrLong)
		notSet(t, list(no, excludes(many(n, 0)...)), api.ErrLong)
		notSet(t, append(make([]period.Period, 63), but(no, many(n, 5)...)), api.ErrLong)
	}
}

// inEntries gives periods with an entry in each place.
func inEntries(e period.Entry, try func(set []period.Period)) {
	ok := weekday(3, span(0, 60))
	places(of(e), try)
	places(of(e, ok, ok), try)
	places(of(ok, ok, e), try)
	places(of(append(many(63, ok), e)...), try)
}

// PD1: spans that may be.
func TestCheckSpans(t *testing.T) {
	for _, s := range []period.Span{span(0, 86400), span(0, 1), span(86399, 86400), span(1, 86399), span(43200, 43201), span(0, 43200), span(43200, 86400), span(63, 64)} {
		inEntries(weekday(1, s), func(set []period.Period) { isSet(t, set) })
		inEntries(weekday(1, s, s, span(5, 6)), func(set []period.Period) { isSet(t, set) })
	}
}

// PD1: spans that may not be, alone and among others.
func TestCheckWrongSpans(t *testing.T) {
	ok := span(60, 120)
	for _, s := range wrongSpans {
		for _, spans := range [][]period.Span{{s}, {s, ok, ok}, {ok, s, ok}, {ok, ok, s}, append(many(31, ok), s)} {
			inEntries(weekday(1, spans...), func(set []period.Period) { notSet(t, set, api.ErrArg) })
		}
	}
}

// PD1: rules that may not be, with spans and without.
func TestCheckWrongRules(t *testing.T) {
	for _, r := range wrongRules {
		inEntries(period.Entry{Rule: r}, func(set []period.Period) { notSet(t, set, api.ErrArg) })
		inEntries(period.Entry{Rule: r, Spans: []period.Span{span(0, 60)}}, func(set []period.Period) { notSet(t, set, api.ErrArg) })
	}
}

// PD1: whatever rule layer 6 takes may be.
func TestCheckRules(t *testing.T) {
	r := rand.New(rand.NewSource(1))
	for range 2000 {
		isSet(t, list(of(period.Entry{Rule: someRule(r), Spans: []period.Span{someSpan(r)}})))
	}
}

// PD1: an exclude is the number of one of the periods, the first and the last too.
func TestCheckExcludes(t *testing.T) {
	for _, n := range []int{2, 3, 64} {
		for i := range n {
			for _, x := range []int{0, 1, n - 2, n - 1} {
				if x != i {
					set := make([]period.Period, n)
					set[i] = excludes(x)
					isSet(t, set)
				}
			}
			for _, x := range append(slices.Clone(wrongInts), n, n+1, 2*n, 65, -n) {
				for _, all := range [][]int{{x}, {x, (i + 1) % n}, {(i + 1) % n, x}, append(many(63, (i+1)%n), x)} {
					set := make([]period.Period, n)
					set[i] = but(period.Period{}, all...)
					notSet(t, set, api.ErrRange)
				}
			}
		}
	}
	notSet(t, list(excludes(1)), api.ErrRange)
	notSet(t, list(excludes(-1)), api.ErrRange)
}

// PD1: a period that excludes itself at once, by way of one other, and by way of many.
func TestCheckLoops(t *testing.T) {
	var no period.Period
	notSet(t, list(excludes(0)), api.ErrLoop)
	notSet(t, list(but(no, 0)), api.ErrLoop)
	notSet(t, list(no, no, but(no, 2)), api.ErrLoop)
	notSet(t, list(no, but(no, 0, 2, 1), no), api.ErrLoop)
	notSet(t, list(but(no, 1), but(no, 0)), api.ErrLoop)
	notSet(t, list(excludes(1), no, excludes(3), excludes(2)), api.ErrLoop)
	notSet(t, list(excludes(1, 2), no, excludes(3), excludes(4), excludes(2)), api.ErrLoop)
	for _, n := range []int{3, 10, 63, 64} {
		for to := range n {
			set := make([]period.Period, n)
			for i := range set {
				set[i].Exclude = []int{i + 1}
			}
			set[n-1].Exclude = []int{to}
			notSet(t, set, api.ErrLoop)
			set[n-1].Exclude = nil
			isSet(t, set)
			slices.Reverse(set)
			for i := range set {
				set[i].Exclude = []int{i - 1}
			}
			set[0].Exclude = nil
			isSet(t, set)
			set[0].Exclude = []int{to}
			notSet(t, set, api.ErrLoop)
		}
	}
}

// PD1: ways that meet, and ways that part and meet again, are no loop, however many there are.
func TestCheckWaysThatMeet(t *testing.T) {
	var no period.Period
	isSet(t, list(excludes(2), excludes(2), no))
	isSet(t, list(no, excludes(0), excludes(0)))
	isSet(t, list(excludes(1, 2), excludes(3), excludes(3), no))
	isSet(t, list(excludes(1, 2, 3), excludes(3), excludes(1, 3), no))
	isSet(t, list(excludes(2, 1), no, excludes(1)))
	isSet(t, ladder())
	set := ladder()
	set[63].Exclude = []int{60}
	notSet(t, set, api.ErrLoop)
}

// ladder are 64 periods of all times, of which each excludes the next one often, and the one behind that: more ways than can be gone.
func ladder() []period.Period {
	set := many(64, daily(span(0, api.Day)))
	for i := range set {
		if i+1 < len(set) {
			set[i].Exclude = many(50, i+1)
		}
		if i+2 < len(set) {
			set[i].Exclude = append(set[i].Exclude, i+2)
		}
	}
	return set
}

// leads tells which period leads to which by excludes, over however many others.
func leads(set []period.Period) [][]bool {
	all := make([][]bool, len(set))
	for i, p := range set {
		all[i] = make([]bool, len(set))
		for _, x := range p.Exclude {
			all[i][x] = true
		}
	}
	for by := range set {
		for i := range set {
			for x := range set {
				all[i][x] = all[i][x] || all[i][by] && all[by][x]
			}
		}
	}
	return all
}

// PD1: whatever excludes there are: a loop is one just where a period leads to itself.
func TestCheckAllExcludes(t *testing.T) {
	r := rand.New(rand.NewSource(2))
	loops := 0
	for range 5000 {
		set := make([]period.Period, r.Intn(8)+1)
		for range r.Intn(10) {
			i := r.Intn(len(set))
			set[i].Exclude = append(set[i].Exclude, r.Intn(len(set)))
		}
		isLoop := false
		for i, to := range leads(set) {
			isLoop = isLoop || to[i]
		}
		if isLoop {
			loops++
			notSet(t, set, api.ErrLoop)
		} else {
			isSet(t, set)
		}
	}
	if loops < 500 || loops > 4500 {
		t.Errorf("%d loops of 5000", loops)
	}
}

// PD1: of two faults, and of more, the one counts that the order names first, wherever they lie.
func TestCheckOrder(t *testing.T) {
	faults := []struct {
		err  api.Errno
		make func(p *period.Period, i int)
	}{
		{api.ErrLong, func(p *period.Period, i int) { p.Entries = append(p.Entries, many(65, weekday(1))...) }},
		{api.ErrLong, func(p *period.Period, i int) { p.Entries = append(p.Entries, weekday(1, many(33, span(0, 1))...)) }},
		{api.ErrLong, func(p *period.Period, i int) { p.Exclude = append(p.Exclude, many(65, (i+1)%5)...) }},
		{api.ErrArg, func(p *period.Period, i int) { p.Entries = append(p.Entries, weekday(7)) }},
		{api.ErrArg, func(p *period.Period, i int) { p.Entries = append(p.Entries, weekday(1, span(5, 5))) }},
		{api.ErrRange, func(p *period.Period, i int) { p.Exclude = append(p.Exclude, 5) }},
		{api.ErrRange, func(p *period.Period, i int) { p.Exclude = append(p.Exclude, -1) }},
		{api.ErrLoop, func(p *period.Period, i int) { p.Exclude = append(p.Exclude, i) }},
	}
	order := []api.Errno{api.ErrLong, api.ErrArg, api.ErrRange, api.ErrLoop}
	for _, a := range faults {
		for _, b := range faults {
			for i := range 5 {
				for j := range 5 {
					set := many(5, daily(span(0, 60)))
					a.make(&set[i], i)
					b.make(&set[j], j)
					want := b.err
					if slices.Index(order, a.err) < slices.Index(order, b.err) {
						want = a.err
					}
					notSet(t, set, want)
				}
			}
		}
	}
	for _, a := range faults {
		set := many(65, daily(span(0, 60)))
		a.make(&set[3], 3)
		notSet(t, set, api.ErrLong)
	}
	all := many(5, daily(span(0, 60)))
	for k := range faults {
		f := faults[len(faults)-1-k]
		f.make(&all[k%5], k%5)
		notSet(t, all, f.err)
	}
}

// PD1 and PD2: a period that there is not comes ahead of a time or an offset that is none, and all of these ahead of within.
func TestErrorsOfInAndNext(t *testing.T) {
	for _, n := range []int{0, 1, 3, 64} {
		set := many(n, daily(span(0, 60)))
		for _, i := range append(slices.Clone(wrongInts), n, n+1) {
			for _, at := range []int{0, 60, lastTime, -1, lastTime + 1, math.MinInt} {
				for _, offset := range []int{0, mostOffset, mostOffset + 1, math.MaxInt} {
					notIn(t, set, i, at, offset, api.ErrRange)
					notNext(t, set, i, at, offset, 0, api.ErrRange)
					notNext(t, set, i, at, offset, -1, api.ErrRange)
				}
			}
		}
	}
	set := list(daily(span(0, 86400)), period.Period{})
	for i := range set {
		for _, c := range [][2]int{{-1, 0}, {-mostOffset, mostOffset}, {math.MinInt, 0}, {lastTime + 1, 0}, {lastTime + 1, -mostOffset}, {math.MaxInt, 0}, {0, mostOffset + 1}, {0, -mostOffset - 1}, {lastTime, math.MaxInt}, {1, math.MinInt}, {-1, mostOffset + 1}} {
			notIn(t, set, i, c[0], c[1], api.ErrArg)
			for _, within := range []int{0, 60, api.Horizon, -1, api.Horizon + 1} {
				notNext(t, set, i, c[0], c[1], within, api.ErrArg)
			}
		}
		for _, offset := range offsets {
			isIn(t, set, i, 0, offset, i == 0)
			isIn(t, set, i, lastTime, offset, i == 0)
		}
	}
}

// PD1: of a span the first second is in, and the last one, but neither the one before it nor the one behind it; at all offsets.
func TestInAtTheEndsOfASpan(t *testing.T) {
	for _, s := range []period.Span{span(0, 1), span(0, 60), span(60, 120), span(60, 61), span(1, 2), span(32400, 61200), span(63, 64), span(64, 128), span(63, 129), span(86340, 86400), span(86399, 86400), span(0, 86400)} {
		set := list(of(weekday(1, s)))
		for _, offset := range offsets {
			begin := monday*api.Day - offset
			isIn(t, set, 0, begin+s.From, offset, true)
			isIn(t, set, 0, begin+(s.From+s.To)/2, offset, true)
			isIn(t, set, 0, begin+s.To-1, offset, true)
			isIn(t, set, 0, begin+s.From-1, offset, false)
			isIn(t, set, 0, begin+s.To, offset, false)
			isIn(t, set, 0, begin-1, offset, false)
			isIn(t, set, 0, begin+api.Day, offset, false)
			for _, day := range []int{-6, -1, 1, 6} {
				isIn(t, set, 0, begin+day*api.Day+s.From, offset, false)
			}
			isIn(t, set, 0, begin+7*api.Day+s.From, offset, true)
			isIn(t, set, 0, begin-7*api.Day+s.To-1, offset, true)
		}
	}
}

// PD1: an offset moves a time to the day ahead, or to the day behind.
func TestInOnOtherDays(t *testing.T) {
	set := list(of(weekday(0, span(0, 86400))), of(weekday(1, span(0, 86400))), of(weekday(2, span(0, 86400))))
	for _, c := range []struct{ second, offset, day int }{
		{0, 0, 1}, {86399, 0, 1}, {0, -1, 0}, {86399, 1, 2}, {0, mostOffset, 1}, {86399, -mostOffset, 1},
		{35999, mostOffset, 1}, {36000, mostOffset, 2}, {50399, -mostOffset, 0}, {50400, -mostOffset, 1}, {86399, mostOffset, 2}, {0, -mostOffset, 0},
	} {
		for i := range set {
			isIn(t, set, i, monday*api.Day+c.second, c.offset, i == c.day)
		}
	}
}

// PD1: local times ahead of 1970, on a Wednesday, the last day of its year; below 0 there is no time.
func TestInAheadOf1970(t *testing.T) {
	set := list(of(weekday(3, span(0, 86400))), of(weekday(4, span(0, 86400))), of(monthDay(12, 31, span(36000, 36060))))
	for _, offset := range []int{-1, -3600, -mostOffset} {
		isIn(t, set, 0, 0, offset, true)
		isIn(t, set, 1, 0, offset, false)
		isIn(t, set, 0, -offset-1, offset, true)
		isIn(t, set, 1, -offset-1, offset, false)
		isIn(t, set, 0, -offset, offset, false)
		isIn(t, set, 1, -offset, offset, true)
	}
	isDay(t, set, 0, -1, span(0, 86400))
	isDay(t, set, 1, -1)
	isDay(t, set, 1, 0, span(0, 86400))
	isDay(t, set, 2, -1, span(36000, 36060))
	isIn(t, set, 2, 0, -mostOffset, true)
	isIn(t, set, 2, 59, -mostOffset, true)
	isIn(t, set, 2, 60, -mostOffset, false)
	isIn(t, set, 2, 0, -mostOffset+1, true)
	isIn(t, set, 2, 0, -3600, false)
}

// PD1: a time in two entries of one period, in either, and in neither; and one in two spans of an entry.
func TestInTwoEntries(t *testing.T) {
	set := list(of(weekday(1, span(100, 300), span(250, 400)), monthDay(5, 25, span(200, 500)), weekday(2, span(0, 86400)), period.Entry{Rule: rule.Rule{Kind: rule.Nth, Month: 5, N: -1, Weekday: 1}, Spans: []period.Span{span(700, 800)}}))
	for _, c := range []struct {
		second int
		want   bool
	}{{99, false}, {100, true}, {200, true}, {250, true}, {299, true}, {300, true}, {399, true}, {400, true}, {499, true}, {500, false}, {699, false}, {700, true}, {799, true}, {800, false}} {
		isIn(t, set, 0, monday*api.Day+c.second, 0, c.want)
	}
	// A week on it is a Monday still, but no 25th, nor May's last one.
	for _, c := range []struct {
		second int
		want   bool
	}{{99, false}, {100, true}, {399, true}, {400, false}, {499, false}, {700, false}} {
		isIn(t, set, 0, (monday+7)*api.Day+c.second, 0, c.want)
	}
}

// PD1: what an excluded period excludes in its turn is in again; what that one excludes is out again.
func TestInExcludedInItsTurn(t *testing.T) {
	set := list(
		but(daily(span(0, 1000)), 1),
		but(daily(span(100, 900)), 2),
		but(daily(span(200, 800)), 3),
		but(daily(span(300, 700)), 4),
		daily(span(400, 600)),
	)
	wants := [][]period.Span{
		{span(0, 100), span(200, 300), span(400, 600), span(700, 800), span(900, 1000)},
		{span(100, 200), span(300, 400), span(600, 700), span(800, 900)},
		{span(200, 300), span(400, 600), span(700, 800)},
		{span(300, 400), span(600, 700)},
		{span(400, 600)},
	}
	for i, spans := range wants {
		isDay(t, set, i, monday, spans...)
		for second := range 1100 {
			want := slices.ContainsFunc(spans, func(s period.Span) bool { return s.From <= second && second < s.To })
			isIn(t, set, i, monday*api.Day+second, 0, want)
		}
	}
}

// PD1: a time is out, if any of the periods that are excluded has it, by way of its own entries alone.
func TestInExcludesSeveral(t *testing.T) {
	set := list(
		but(daily(span(0, 1000)), 1, 2, 3),
		daily(span(100, 200)),
		of(weekday(1, span(150, 300))),
		of(monthDay(1, 1, span(0, 86400))),
	)
	isDay(t, set, 0, monday, span(0, 100), span(300, 1000))
	isDay(t, set, 0, monday+1, span(0, 100), span(200, 1000))
	isDay(t, set, 0, 20454)
	for _, second := range []int{0, 99, 300, 999} {
		isIn(t, set, 0, monday*api.Day+second, 0, true)
	}
	for _, second := range []int{100, 150, 199, 200, 299, 1000} {
		isIn(t, set, 0, monday*api.Day+second, 0, false)
	}
}

// PD1, PD2 and PD3: more ways by excludes than can be gone, one by one, are gone all the same.
func TestLadder(t *testing.T) {
	set := ladder()
	// From the end on: the last is in; the two ahead of it have it, or the next, out of them; and so on.
	want := make([]bool, 64)
	for i := 63; i >= 0; i-- {
		want[i] = !(i+1 < 64 && want[i+1] || i+2 < 64 && want[i+2])
	}
	for i, is := range want {
		isIn(t, set, i, monday*api.Day, 0, is)
		if is {
			isDay(t, set, i, monday, span(0, 86400))
			isNext(t, set, i, 77, 0, 3*api.Day, 77)
		} else {
			isDay(t, set, i, monday)
			noneNext(t, set, i, 77, 0, 3*api.Day)
		}
	}
}

// PD2: within is from 0 to Horizon.
func TestNextWithin(t *testing.T) {
	set := list(daily(span(0, 86400)), period.Period{})
	for i := range set {
		for _, within := range []int{-1, -2, api.Horizon + 1, api.Horizon + 2, math.MaxInt, math.MinInt, lastTime, 1 << 32, -1 << 32} {
			notNext(t, set, i, 0, 0, within, api.ErrArg)
			notNext(t, set, i, 5000, 3600, within, api.ErrArg)
			notNext(t, set, i, lastTime, 0, within, api.ErrArg)
		}
	}
	for _, within := range []int{0, 1, 60, api.Day, api.Horizon - 1, api.Horizon} {
		isNext(t, set, 0, 5000, 0, within, 5000)
		noneNext(t, set, 1, 5000, 0, within)
	}
}

// PD2: a first time that is the time itself, one that is just within, and one that is one second further.
func TestNextJustWithin(t *testing.T) {
	set := list(of(weekday(1, span(3600, 3700))))
	for _, offset := range offsets {
		first := monday*api.Day + 3600 - offset
		for _, ahead := range []int{1, 59, 60, 3599, 3600, 3601, 86399, 86400, 100000, 6*api.Day - 5, 7*api.Day - 100} {
			isNext(t, set, 0, first-ahead, offset, ahead, first)
			isNext(t, set, 0, first-ahead, offset, ahead+1, first)
			isNext(t, set, 0, first-ahead, offset, api.Horizon, first)
			noneNext(t, set, 0, first-ahead, offset, ahead-1)
			noneNext(t, set, 0, first-ahead, offset, 0)
		}
		for _, behind := range []int{0, 1, 50, 99} {
			isNext(t, set, 0, first+behind, offset, 0, first+behind)
			isNext(t, set, 0, first+behind, offset, api.Horizon, first+behind)
		}
		isNext(t, set, 0, first+100, offset, 7*api.Day-100, first+7*api.Day)
		noneNext(t, set, 0, first+100, offset, 7*api.Day-101)
		noneNext(t, set, 0, first+100, offset, 0)
	}
}

// PD2: from one day's end to the next one's begin, and from span to span.
func TestNextFromSpanToSpan(t *testing.T) {
	set := list(of(weekday(1, span(86390, 86400), span(100, 200), span(150, 160), span(300, 301)), weekday(2, span(0, 5), span(10, 20))))
	day := monday * api.Day
	for _, c := range [][2]int{
		{0, 100}, {99, 100}, {100, 100}, {155, 155}, {165, 165}, {199, 199}, {200, 300}, {299, 300}, {300, 300}, {301, 86390}, {86389, 86390}, {86395, 86395}, {86399, 86399},
		{86400, 86400}, {86404, 86404}, {86405, 86410}, {86419, 86419}, {86420, 7*86400 + 100},
	} {
		isNext(t, set, 0, day+c[0], 0, api.Horizon, day+c[1])
		isNext(t, set, 0, day+c[0], 0, c[1]-c[0], day+c[1])
		if c[1] > c[0] {
			noneNext(t, set, 0, day+c[0], 0, c[1]-c[0]-1)
		}
	}
}

// PD2: periods that have no time at all: by no entry, by no span, by no such day, and by what they exclude.
func TestNextOfNothing(t *testing.T) {
	set := list(
		period.Period{},
		of(weekday(0), weekday(1), weekday(2), weekday(3), weekday(4), weekday(5), weekday(6)),
		of(monthDay(2, 31, span(0, 86400)), monthDay(2, 30, span(0, 86400))),
		but(daily(span(100, 200)), 5),
		but(daily(span(0, 86400)), 5, 6),
		daily(span(0, 43200)),
		daily(span(43200, 86400)),
		of(dates(civil.Date{Y: 2020, M: 1, D: 1}, civil.Date{Y: 2020, M: 12, D: 31}, span(0, 86400))),
	)
	for i := range 5 {
		for _, at := range []int{0, 1, 86400, monday * api.Day, lastTime - 5, lastTime} {
			for _, within := range []int{0, 1, 86400, api.Horizon} {
				noneNext(t, set, i, at, 0, within)
				noneNext(t, set, i, at, mostOffset, within)
			}
		}
	}
	noneNext(t, set, 7, monday*api.Day, 0, api.Horizon)
}

// PD2: a first time that lies days and months ahead, and one that lies just at, and just beyond, the Horizon.
func TestNextFarAhead(t *testing.T) {
	set := list(
		of(monthDay(12, 25, span(36000, 36060))),
		of(monthDay(2, 29, span(0, 1))),
		of(dates(civil.Date{Y: 2027, M: 6, D: 29}, civil.Date{Y: 2030, M: 1, D: 1}, span(7200, 7201))),
		but(daily(span(3600, 7200)), 4),
		of(dates(civil.Date{Y: 2026, M: 1, D: 1}, civil.Date{Y: 2026, M: 8, D: 31}, span(0, 86400))),
	)
	for _, offset := range offsets {
		// Days of 2026-12-25, of 2028-02-29, of 2027-06-29 and of 2026-09-01.
		begin := monday*api.Day - offset
		isNext(t, set, 0, begin, offset, api.Horizon, 20812*api.Day+36000-offset)
		isNext(t, set, 0, begin, offset, 214*api.Day+36000, 20812*api.Day+36000-offset)
		noneNext(t, set, 0, begin, offset, 214*api.Day+35999)
		noneNext(t, set, 1, begin, offset, api.Horizon)
		isNext(t, set, 1, 20843*api.Day-offset, offset, api.Horizon, 21243*api.Day-offset)
		noneNext(t, set, 1, 20843*api.Day-1-offset, offset, api.Horizon)
		isNext(t, set, 2, begin+7200, offset, api.Horizon, 20998*api.Day+7200-offset)
		noneNext(t, set, 2, begin+7199, offset, api.Horizon)
		noneNext(t, set, 2, begin+7200, offset, api.Horizon-1)
		isNext(t, set, 3, begin, offset, api.Horizon, 20697*api.Day+3600-offset)
	}
}

// PD2: the first seconds that there are, at all offsets.
func TestNextFromTheBegin(t *testing.T) {
	for _, offset := range offsets {
		set := list(daily(span(0, 1)), daily(span(86399, 86400)), daily(span(0, 86400)))
		toMidnight := ((-offset)%api.Day + api.Day) % api.Day
		isNext(t, set, 0, 0, offset, api.Day, toMidnight)
		isNext(t, set, 1, 0, offset, api.Day, (toMidnight+api.Day-1)%api.Day)
		isNext(t, set, 2, 0, offset, 0, 0)
	}
	// On a Wednesday, ahead of 1970.
	set := list(of(weekday(3, span(36000, 36010), span(86399, 86400))))
	isNext(t, set, 0, 0, -mostOffset, 0, 0)
	isNext(t, set, 0, 9, -mostOffset, 0, 9)
	isNext(t, set, 0, 10, -mostOffset, 50389, 50399)
	noneNext(t, set, 0, 10, -mostOffset, 50388)
	isNext(t, set, 0, 50400, -mostOffset, api.Horizon, 6*api.Day+50400+36000)
}

// PD2: near the last time: what is behind it is none.
func TestNextNearTheEnd(t *testing.T) {
	set := list(
		of(weekday(2, span(lastSecond, lastSecond+1))),
		of(weekday(2, span(lastSecond+1, 86400)), weekday(3, span(0, 86400))),
		daily(span(0, 86400)),
		of(weekday(1, span(86399, 86400))),
		of(weekday(3, span(0, 60))),
	)
	begin := lastTime - lastSecond
	for _, within := range []int{0, 1, 86400, api.Horizon} {
		isNext(t, set, 0, lastTime, 0, within, lastTime)
		noneNext(t, set, 1, lastTime, 0, within)
		isNext(t, set, 2, lastTime, 0, within, lastTime)
		noneNext(t, set, 3, begin, 0, within)
		noneNext(t, set, 4, begin, 0, within)
		noneNext(t, set, 0, lastTime, 1, within)
		noneNext(t, set, 1, lastTime, -1, within)
		isNext(t, set, 1, lastTime, 1, within, lastTime)
		isNext(t, set, 1, lastTime, mostOffset, within, lastTime)
	}
	isNext(t, set, 0, lastTime-1, 0, 1, lastTime)
	noneNext(t, set, 0, lastTime-1, 0, 0)
	isNext(t, set, 0, lastTime-1, 0, api.Horizon, lastTime)
	isNext(t, set, 0, begin-api.Day, 0, api.Horizon, lastTime)
	isNext(t, set, 0, lastTime-100, 1, api.Horizon, lastTime-1)
	noneNext(t, set, 0, lastTime-100, -1, api.Horizon)
	isNext(t, set, 3, begin-1, 0, 0, begin-1)
	isNext(t, set, 3, lastTime-2*api.Day, 0, api.Horizon, begin-1)
	noneNext(t, set, 1, begin, 0, api.Horizon)
	isNext(t, set, 1, lastTime-6*api.Day-100, 0, api.Horizon, lastTime-6*api.Day-100)
}

// PD2: an exclude takes the front of a span, the whole of it, its end, and a piece in the middle.
func TestNextBehindExcludes(t *testing.T) {
	set := list(
		but(of(weekday(1, span(1000, 2000), span(3000, 4000), span(5000, 6000))), 1),
		daily(span(500, 1300), span(3000, 4000), span(5400, 5500), span(5900, 7000)),
	)
	day := monday * api.Day
	for _, c := range [][2]int{{0, 1300}, {1000, 1300}, {1299, 1300}, {1300, 1300}, {1999, 1999}, {2000, 5000}, {3000, 5000}, {3999, 5000}, {5399, 5399}, {5400, 5500}, {5499, 5500}, {5899, 5899}, {5900, 7*86400 + 1300}} {
		isNext(t, set, 0, day+c[0], 0, api.Horizon, day+c[1])
		isNext(t, set, 0, day+c[0], 0, c[1]-c[0], day+c[1])
		if c[1] > c[0] {
			noneNext(t, set, 0, day+c[0], 0, c[1]-c[0]-1)
		}
	}
}

// PD3: Check's error, then the period's number, then the day.
func TestErrorsOfDay(t *testing.T) {
	wrongDays := []int{mostDays + 1, -mostDays - 1, mostDays + 2, 1 << 47, -1 << 47, math.MaxInt, math.MinInt}
	for _, n := range []int{0, 1, 3, 64} {
		set := many(n, daily(span(0, 60)))
		for _, i := range append(slices.Clone(wrongInts), n, n+1) {
			for _, day := range append(slices.Clone(wrongDays), 0, monday, mostDays) {
				notDay(t, set, i, day, api.ErrRange)
			}
		}
	}
	set := list(
		daily(span(0, 60)), period.Period{}, excludes(0), of(monthDay(2, 31)), of(weekday(1)), but(period.Period{}, 0),
		of(dates(civil.Date{Y: 2026, M: 1, D: 1}, civil.Date{Y: 2026, M: 1, D: 1}, span(0, 60))),
	)
	for i := range set {
		for _, day := range wrongDays {
			notDay(t, set, i, day, api.ErrArg)
		}
	}
	for _, day := range []int{mostDays, -mostDays, mostDays - 1, 1 - mostDays, 0, -1, lastDay + 5} {
		isDay(t, set, 0, day, span(0, 60))
		isDay(t, set, 1, day)
		isDay(t, set, 2, day, span(60, 86400))
		isDay(t, set, 3, day)
		isDay(t, set, 4, day)
		isDay(t, set, 5, day)
		isDay(t, set, 6, day)
	}
}

// PD3: spans that overlap, touch, lie one in another and come in another order, of one entry.
func TestDayOfOneEntry(t *testing.T) {
	for _, c := range []struct{ in, out []period.Span }{
		{nil, nil},
		{[]period.Span{span(0, 86400)}, []period.Span{span(0, 86400)}},
		{[]period.Span{span(10, 20)}, []period.Span{span(10, 20)}},
		{[]period.Span{span(10, 20), span(15, 30)}, []period.Span{span(10, 30)}},
		{[]period.Span{span(15, 30), span(10, 20)}, []period.Span{span(10, 30)}},
		{[]period.Span{span(10, 20), span(20, 30)}, []period.Span{span(10, 30)}},
		{[]period.Span{span(20, 30), span(10, 20)}, []period.Span{span(10, 30)}},
		{[]period.Span{span(10, 20), span(21, 30)}, []period.Span{span(10, 20), span(21, 30)}},
		{[]period.Span{span(21, 30), span(10, 20)}, []period.Span{span(10, 20), span(21, 30)}},
		{[]period.Span{span(10, 40), span(20, 30)}, []period.Span{span(10, 40)}},
		{[]period.Span{span(20, 30), span(10, 40)}, []period.Span{span(10, 40)}},
		{[]period.Span{span(10, 40), span(10, 40), span(10, 20), span(30, 40)}, []period.Span{span(10, 40)}},
		{[]period.Span{span(50, 60), span(10, 20), span(30, 40), span(0, 1)}, []period.Span{span(0, 1), span(10, 20), span(30, 40), span(50, 60)}},
		{[]period.Span{span(50, 60), span(10, 20), span(30, 40), span(20, 30), span(40, 50)}, []period.Span{span(10, 60)}},
		{[]period.Span{span(10, 1000), span(20, 30), span(40, 50), span(1000, 1001), span(1002, 1003)}, []period.Span{span(10, 1001), span(1002, 1003)}},
		{[]period.Span{span(0, 64), span(128, 192), span(64, 65), span(127, 128)}, []period.Span{span(0, 65), span(127, 192)}},
		{[]period.Span{span(0, 640), span(64, 128), span(63, 129), span(576, 704)}, []period.Span{span(0, 704)}},
		{[]period.Span{span(0, 43200), span(43200, 86400)}, []period.Span{span(0, 86400)}},
		{[]period.Span{span(86399, 86400), span(0, 1)}, []period.Span{span(0, 1), span(86399, 86400)}},
	} {
		isDay(t, list(of(weekday(1, c.in...))), 0, monday, c.out...)
		isDay(t, list(of(weekday(1, c.in...))), 0, monday+1)
		var entries []period.Entry
		for _, s := range c.in {
			entries = append(entries, weekday(1, s))
		}
		isDay(t, list(of(entries...)), 0, monday, c.out...)
		slices.Reverse(entries)
		isDay(t, list(period.Period{}, of(entries...)), 1, monday, c.out...)
	}
}

// PD3: what comes from entries of other kinds, of which a day is meant by some.
func TestDayOfManyEntries(t *testing.T) {
	set := list(of(
		weekday(1, span(32400, 43200), span(46800, 61200)),
		monthDay(0, -7, span(43200, 46800)),
		period.Entry{Rule: rule.Rule{Kind: rule.Nth, Month: 5, N: -1, Weekday: 1}, Spans: []period.Span{span(70000, 70010)}},
		dates(civil.Date{Y: 2026, M: 5, D: 25}, civil.Date{Y: 2026, M: 6, D: 1}, span(0, 60)),
		weekday(2, span(32400, 36000)),
	))
	isDay(t, set, 0, monday, span(0, 60), span(32400, 61200), span(70000, 70010))
	isDay(t, set, 0, monday-7, span(32400, 43200), span(46800, 61200))
	isDay(t, set, 0, monday+7, span(0, 60), span(32400, 43200), span(46800, 61200))
	isDay(t, set, 0, monday+1, span(0, 60), span(32400, 36000))
	isDay(t, set, 0, monday+2, span(0, 60))
	isDay(t, set, 0, monday-1)
}

// PD3: excludes that take the front of a span, its end, its middle, all of it, and nothing.
func TestDayBehindExcludes(t *testing.T) {
	for _, c := range []struct{ own, out, left []period.Span }{
		{[]period.Span{span(100, 200)}, []period.Span{span(0, 100)}, []period.Span{span(100, 200)}},
		{[]period.Span{span(100, 200)}, []period.Span{span(200, 300)}, []period.Span{span(100, 200)}},
		{[]period.Span{span(100, 200)}, []period.Span{span(100, 101)}, []period.Span{span(101, 200)}},
		{[]period.Span{span(100, 200)}, []period.Span{span(50, 150)}, []period.Span{span(150, 200)}},
		{[]period.Span{span(100, 200)}, []period.Span{span(199, 200)}, []period.Span{span(100, 199)}},
		{[]period.Span{span(100, 200)}, []period.Span{span(150, 250)}, []period.Span{span(100, 150)}},
		{[]period.Span{span(100, 200)}, []period.Span{span(150, 151)}, []period.Span{span(100, 150), span(151, 200)}},
		{[]period.Span{span(100, 200)}, []period.Span{span(120, 180)}, []period.Span{span(100, 120), span(180, 200)}},
		{[]period.Span{span(100, 200)}, []period.Span{span(100, 200)}, nil},
		{[]period.Span{span(100, 200)}, []period.Span{span(0, 86400)}, nil},
		{[]period.Span{span(100, 200)}, []period.Span{span(100, 150), span(150, 200)}, nil},
		{[]period.Span{span(100, 200)}, []period.Span{span(150, 250), span(90, 160)}, nil},
		{[]period.Span{span(100, 200), span(300, 400)}, []period.Span{span(150, 350)}, []period.Span{span(100, 150), span(350, 400)}},
		{[]period.Span{span(100, 200), span(300, 400), span(500, 600)}, []period.Span{span(150, 550)}, []period.Span{span(100, 150), span(550, 600)}},
		{[]period.Span{span(0, 86400)}, []period.Span{span(0, 1), span(86399, 86400)}, []period.Span{span(1, 86399)}},
		{[]period.Span{span(0, 86400)}, []period.Span{span(3600, 7200), span(10, 20), span(20, 30), span(86000, 86399)}, []period.Span{span(0, 10), span(30, 3600), span(7200, 86000), span(86399, 86400)}},
		{[]period.Span{span(0, 256)}, []period.Span{span(64, 128), span(191, 193)}, []period.Span{span(0, 64), span(128, 191), span(193, 256)}},
		{nil, []period.Span{span(0, 86400)}, nil},
		{[]period.Span{span(100, 200)}, nil, []period.Span{span(100, 200)}},
	} {
		isDay(t, list(but(of(weekday(1, c.own...)), 1), of(weekday(1, c.out...))), 0, monday, c.left...)
		isDay(t, list(of(weekday(1, c.out...)), but(of(weekday(1, c.own...)), 0, 0)), 1, monday, c.left...)
		// On another day the excluded period has nothing.
		isDay(t, list(but(of(weekday(1, c.own...)), 1), of(weekday(2, c.out...))), 0, monday, plainDay(t, list(of(weekday(1, c.own...))), 0, monday)...)
		// Each span is excluded by a period of its own.
		set := list(of(weekday(1, c.own...)))
		for i, s := range c.out {
			set = append(set, of(weekday(1, s)))
			set[0].Exclude = append(set[0].Exclude, i+1)
		}
		isDay(t, set, 0, monday, c.left...)
	}
}

// PD3: the chapter's example: days that are no Mondays; and Mondays, of which one is the first of a month.
func TestDayOfTheExample(t *testing.T) {
	set := list(but(of(weekday(1, span(32400, 61200))), 1), of(monthDay(0, 1, span(0, 86400))))
	first := monday + 7
	isDay(t, set, 0, 18262)
	isDay(t, set, 0, 18263)
	isDay(t, set, 0, monday-1)
	isDay(t, set, 0, monday, span(32400, 61200))
	isDay(t, set, 0, first)
	isDay(t, set, 0, first+7, span(32400, 61200))
	isDay(t, set, 1, monday)
	isDay(t, set, 1, first, span(0, 86400))
}

// PD1 and PD3: any periods, on any days, held against the words.
func TestSomeDays(t *testing.T) {
	r := rand.New(rand.NewSource(3))
	found := 0
	for range 3000 {
		set := some(r)
		i, day := r.Intn(len(set)), 20454+r.Intn(365)
		want := plainDay(t, set, i, day)
		found += len(want)
		isDay(t, set, i, day, want...)
		for _, second := range edges(set) {
			offset := offsets[r.Intn(len(offsets))]
			isIn(t, set, i, day*api.Day+second-offset, offset, plain(t, set, i, day, second))
		}
		if t.Failed() {
			t.Fatalf("of %+v", set)
		}
	}
	if found < 2000 {
		t.Errorf("%d spans", found)
	}
}

// PD3: what Day answers ascends, and no two spans of it touch or meet; and it is just what In says, second by second.
func TestDayIsWhatInSays(t *testing.T) {
	r := rand.New(rand.NewSource(4))
	for range 12 {
		set := some(r)
		i, day, offset := r.Intn(len(set)), 20454+r.Intn(365), offsets[r.Intn(len(offsets))]
		spans, err := period.Day(set, i, day)
		if err != nil {
			t.Fatalf("Day: %v", err)
		}
		for k, s := range spans {
			if s.From >= s.To || k > 0 && spans[k-1].To >= s.From {
				t.Errorf("Day: %v", spans)
			}
		}
		for second := range api.Day {
			want := slices.ContainsFunc(spans, func(s period.Span) bool { return s.From <= second && second < s.To })
			isIn(t, set, i, day*api.Day+second-offset, offset, want)
		}
		if t.Failed() {
			t.Fatalf("of %+v", set)
		}
	}
}

// plainNext is the first time that is in a period, found day by day from Day's spans as the words have them.
func plainNext(t *testing.T, set []period.Period, i, at, offset, within int) (int, bool) {
	t.Helper()
	for day := (at + offset - api.Day) / api.Day; day <= (at+offset+within)/api.Day; day++ {
		for _, s := range plainDay(t, set, i, day) {
			from, to := day*api.Day+s.From-offset, day*api.Day+s.To-offset
			if x := max(from, at); x < to && x <= at+within {
				return x, true
			}
		}
	}
	return 0, false
}

// PD2 and PD4: any periods, from any times on, held against the words.
func TestSomeNext(t *testing.T) {
	r := rand.New(rand.NewSource(5))
	found, none := 0, 0
	for range 1500 {
		set := some(r)
		i, offset := r.Intn(len(set)), offsets[r.Intn(len(offsets))]
		at := 20454*api.Day + r.Intn(365*api.Day)
		within := r.Intn([]int{100, 86400, 20 * api.Day}[r.Intn(3)])
		if want, is := plainNext(t, set, i, at, offset, within); is {
			isNext(t, set, i, at, offset, within, want)
			isNext(t, set, i, at, offset, want-at, want)
			isNext(t, set, i, want, offset, 0, want)
			if want > at {
				noneNext(t, set, i, at, offset, want-at-1)
			}
			found++
		} else {
			noneNext(t, set, i, at, offset, within)
			none++
		}
		if t.Failed() {
			t.Fatalf("of %+v", set)
		}
	}
	if found < 300 || none < 300 {
		t.Errorf("%d found, %d not", found, none)
	}
}

// PD4: Next answers the time itself just where it is in the period; else no time below the answer is in, and the answer is.
func TestNextIsTheFirstIn(t *testing.T) {
	set := list(
		daily(span(32400, 61200)),
		but(daily(span(32400, 61200)), 2),
		of(weekday(1, span(0, 86400)), weekday(2, span(43200, 43260))),
		but(excludes(0), 4),
		but(daily(span(0, 1), span(86399, 86400), span(100, 164), span(64, 65)), 5),
		of(weekday(1, span(110, 120))),
		but(of(weekday(1, span(0, 86400)), weekday(3, span(50, 51))), 3),
	)
	r := rand.New(rand.NewSource(8))
	for i := range set {
		offset := []int{0, 19800, -3601}[i%3]
		begin := (monday-1)*api.Day - offset
		for at := begin; at < begin+3*api.Day; at++ {
			x, is, err := period.Next(set, i, at, offset, 10*api.Day)
			if !is || err != nil {
				t.Fatalf("Next(%d, %d, %d): %d, %v, %v", i, at, offset, x, is, err)
			}
			// What lies between is gone over second by second, and then from the answer on.
			for ; at < x; at++ {
				if is, err := period.In(set, i, at, offset); is || err != nil {
					t.Fatalf("In(%d, %d, %d): %v, %v, but next %d", i, at, offset, is, err, x)
				}
				if r.Intn(500) == 0 {
					isNext(t, set, i, at, offset, 10*api.Day, x)
				}
			}
			if is, err := period.In(set, i, x, offset); !is || err != nil {
				t.Fatalf("In(%d, %d, %d): %v, %v, but next", i, x, offset, is, err)
			}
		}
	}
}

// roomy are periods all of whose lists have spare room behind them.
func roomy(set []period.Period) []period.Period {
	all := make([]period.Period, 0, len(set)+3)
	for _, p := range set {
		entries := make([]period.Entry, 0, len(p.Entries)+3)
		for _, e := range p.Entries {
			e.Spans = append(make([]period.Span, 0, len(e.Spans)+40), e.Spans...)
			entries = append(entries, e)
		}
		all = append(all, period.Period{Entries: entries, Exclude: append(make([]int, 0, len(p.Exclude)+3), p.Exclude...)})
	}
	return all
}

// whole are periods with their lists' spare room.
func whole(set []period.Period) []period.Period {
	all := slices.Clone(set[:cap(set)])
	for i, p := range all {
		entries := slices.Clone(p.Entries[:cap(p.Entries)])
		for k, e := range entries {
			entries[k].Spans = slices.Clone(e.Spans[:cap(e.Spans)])
		}
		all[i] = period.Period{Entries: entries, Exclude: slices.Clone(p.Exclude[:cap(p.Exclude)])}
	}
	return all
}

// PD1 to PD3: what is handed in is not changed, nor the spare room behind it, by any call.
func TestHandedInIsNotChanged(t *testing.T) {
	r := rand.New(rand.NewSource(6))
	for k := range 500 {
		set := roomy(some(r))
		switch k % 5 {
		case 0:
			set[0].Exclude = append(set[0].Exclude, 0)
		case 1:
			set[0].Entries = append(set[0].Entries, weekday(7, span(9, 5)))
		}
		was := whole(set)
		i, at, day := r.Intn(len(set)), 20454*api.Day+r.Intn(365*api.Day), 20454+r.Intn(365)
		_ = period.Check(set)
		_, _ = period.In(set, i, at, 3600)
		_, _, _ = period.Next(set, i, at, -3600, api.Horizon)
		_, _ = period.Day(set, i, day)
		if !reflect.DeepEqual(whole(set), was) {
			t.Fatalf("%+v, not %+v", whole(set), was)
		}
	}
}

// PD3: an answer is new memory: what is done to it, and to its spare room, is seen by nobody else; nothing is kept from call to call.
func TestAnswersAreNew(t *testing.T) {
	set := list(but(of(weekday(1, span(100, 200), span(300, 400))), 1), daily(span(150, 160)), of(weekday(1, span(5, 9))))
	want := []period.Span{span(100, 150), span(160, 200), span(300, 400)}
	a, errA := period.Day(set, 0, monday)
	b, errB := period.Day(set, 0, monday)
	c, errC := period.Day(set, 2, monday)
	if errA != nil || errB != nil || errC != nil {
		t.Fatalf("Day: %v, %v, %v", errA, errB, errC)
	}
	for _, spans := range [][]period.Span{a, c} {
		spans = spans[:cap(spans)]
		for i := range spans {
			spans[i] = span(-1, -1)
		}
	}
	if !slices.Equal(b, want) {
		t.Errorf("Day: %v", b)
	}
	isDay(t, set, 0, monday, want...)
	isDay(t, set, 2, monday, span(5, 9))
	// Another set in the same memory is another one.
	set[1].Entries[1].Spans[0] = span(0, 350)
	isDay(t, set, 0, monday, span(350, 400))
	isNext(t, set, 0, monday*api.Day, 0, 1000, monday*api.Day+350)
	isIn(t, set, 0, monday*api.Day+100, 0, false)
}

// PD1 to PD3: periods with all that there may be of everything are gone over in time: here what is asked for is never there.
func TestMostOfEverything(t *testing.T) {
	r := rand.New(rand.NewSource(7))
	set := make([]period.Period, 64)
	for i := range set {
		for range 64 {
			e := dates(civil.Date{Y: 0, M: 1, D: 1}, civil.Date{Y: 9999, M: 12, D: 31})
			for range 32 {
				from := r.Intn(api.Day)
				e.Spans = append(e.Spans, span(from, from+1))
			}
			set[i].Entries = append(set[i].Entries, e)
		}
		for x := i + 1; x < len(set); x++ {
			set[i].Exclude = append(set[i].Exclude, x)
		}
	}
	set[63].Entries[63].Spans[31] = span(0, 86400)
	isSet(t, set)
	for i := range 63 {
		isIn(t, set, i, monday*api.Day, 0, false)
		isDay(t, set, i, monday)
	}
	isDay(t, set, 63, monday, span(0, 86400))
	noneNext(t, set, 0, monday*api.Day, 0, api.Horizon)
}

// PD3: as many spans as there may be, that lie one in another, touch, or are the same.
func TestDayOfMostSpans(t *testing.T) {
	var nested, touching, same period.Period
	for e := range 64 {
		a, b, c := weekday(1), weekday(1), weekday(1)
		for k := range 32 {
			n := e*32 + k
			a.Spans = append(a.Spans, span(n, api.Day-n-1))
			b.Spans = append(b.Spans, span(n*42, n*42+42))
			c.Spans = append(c.Spans, span(60, 86000))
		}
		nested.Entries = append(nested.Entries, a)
		touching.Entries = append(touching.Entries, b)
		same.Entries = append(same.Entries, c)
	}
	set := list(nested, touching, same, but(nested, 2), but(same, 1), but(touching, 2))
	isDay(t, set, 0, monday, span(0, 86399))
	isDay(t, set, 1, monday, span(0, 86016))
	isDay(t, set, 2, monday, span(60, 86000))
	isDay(t, set, 3, monday, span(0, 60), span(86000, 86399))
	isDay(t, set, 4, monday)
	isDay(t, set, 5, monday, span(0, 60), span(86000, 86016))
	for i := range set {
		isDay(t, set, i, monday+1)
	}
}

// The days that tests name are those of layers 4 and 5.
func TestDaysOfTests(t *testing.T) {
	for day, want := range map[int]civil.Date{
		monday: {Y: 2026, M: 5, D: 25}, 20605: {Y: 2026, M: 6, D: 1}, 20454: {Y: 2026, M: 1, D: 1}, 20812: {Y: 2026, M: 12, D: 25},
		21243: {Y: 2028, M: 2, D: 29}, 20998: {Y: 2027, M: 6, D: 29}, 20697: {Y: 2026, M: 9, D: 1}, 20843: {Y: 2027, M: 1, D: 25},
	} {
		if d, err := civil.Of(day); d != want || err != nil {
			t.Errorf("Of(%d): %v, %v, not %v", day, d, err, want)
		}
	}
	if w := civil.Weekday(monday); w != 1 {
		t.Errorf("Weekday(%d): %d", monday, w)
	}
	if w := civil.Weekday(lastDay); w != 2 {
		t.Errorf("Weekday(%d): %d", lastDay, w)
	}
	if m, err := clock.Split(lastTime, 0); m != (clock.Moment{Day: lastDay, Second: lastSecond}) || err != nil {
		t.Errorf("Split: %v, %v", m, err)
	}
}
