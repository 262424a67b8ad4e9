package rule_test

import (
	"errors"
	"fmt"
	"math"
	"math/rand"
	"regexp"
	"slices"
	"strconv"
	"strings"
	"testing"

	"belvedere/api"
	"belvedere/civil"
	"belvedere/rule"
)

const mostDays = 1 << 46

// farInts are wrong in each place.
var farInts = []int{1 << 31, -1 << 31, 1 << 32, -1 << 32, math.MaxInt, math.MinInt, math.MinInt + 1}

// known are rules with their texts, with days that they mean, and days that they don't.
var known = []struct {
	r    rule.Rule
	text string
	yes  []int
	no   []int
}{
	{rule.Rule{Kind: rule.Weekday}, "weekday 0", []int{20604, 20485, 20513, -719163, 3}, []int{20603, 20605, 20598, 0, 4}},
	{rule.Rule{Kind: rule.Weekday, Weekday: 1}, "weekday 1", []int{20598, 20591, 20633, -719162, 4}, []int{20599, 20597, 0, -1}},
	{rule.Rule{Kind: rule.Weekday, Weekday: 2}, "weekday 2", []int{20599, 11016, -mostDays}, []int{20598, mostDays}},
	{rule.Rule{Kind: rule.Weekday, Weekday: 3}, "weekday 3", []int{20775, -1}, []int{0, 20776}},
	{rule.Rule{Kind: rule.Weekday, Weekday: 4}, "weekday 4", []int{0, 7, -7, -719894}, []int{1, -1, 6, -6}},
	{rule.Rule{Kind: rule.Weekday, Weekday: 5}, "weekday 5", []int{2932896, -719529}, []int{2932897, -719528}},
	{rule.Rule{Kind: rule.Weekday, Weekday: 6}, "weekday 6", []int{2932897, -719528, mostDays}, []int{2932896, -719529, -mostDays}},

	{rule.Rule{Kind: rule.MonthDay, N: 1}, "day 0 1", []int{0, 20454, 20574, 20485, -719528, 2932897}, []int{20575, 20573, -1, mostDays, -mostDays}},
	{rule.Rule{Kind: rule.MonthDay, N: 4}, "day 0 4", []int{3, mostDays, mostDays - 31}, []int{-mostDays, mostDays - 1, mostDays - 30}},
	{rule.Rule{Kind: rule.MonthDay, N: 29}, "day 0 29", []int{19782, 11016, 20602, -mostDays}, []int{20512, -25509, 19781, mostDays}},
	{rule.Rule{Kind: rule.MonthDay, N: 30}, "day 0 30", []int{20573, 20603, 20787}, []int{20512, 20513, 19782, 20574}},
	{rule.Rule{Kind: rule.MonthDay, N: 31}, "day 0 31", []int{20604, 20818, 20484, -1, -719529, 2932896}, []int{20573, 20512, 19782, 20787, 20605}},
	{rule.Rule{Kind: rule.MonthDay, N: -1}, "day 0 -1", []int{20604, 20573, 20512, 19782, 11016, -25509, -1, 20818, -719163}, []int{20603, 19781, 0, -719162, mostDays, -mostDays}},
	{rule.Rule{Kind: rule.MonthDay, N: -3}, "day 0 -3", []int{-mostDays}, []int{mostDays, 1 - mostDays}},
	{rule.Rule{Kind: rule.MonthDay, N: -28}, "day 0 -28", []int{20485, 20513 + 3, mostDays}, []int{19754, 20513, -mostDays}},
	{rule.Rule{Kind: rule.MonthDay, N: -29}, "day 0 -29", []int{19754, 20513 + 2}, []int{20485, 20484, 20513}},
	{rule.Rule{Kind: rule.MonthDay, N: -30}, "day 0 -30", []int{20758, 20575}, []int{19754, 20485, 20574}},
	{rule.Rule{Kind: rule.MonthDay, N: -31}, "day 0 -31", []int{20574, 20454, 20058, 0}, []int{20758, 19754, 20485, 20513 - 28}},
	{rule.Rule{Kind: rule.MonthDay, Month: 2, N: 29}, "day 2 29", []int{19782, 11016}, []int{20512, 20513, 19781, -25509, -25508, 20602}},
	{rule.Rule{Kind: rule.MonthDay, Month: 2, N: -1}, "day 2 -1", []int{19782, 11016, 20512, -25509}, []int{19781, 20604, 20484, 20513}},
	{rule.Rule{Kind: rule.MonthDay, Month: 12, N: 31}, "day 12 31", []int{20818, -1, 2932896, 20088}, []int{20604, 20817, 20819, 0}},
	{rule.Rule{Kind: rule.MonthDay, Month: 1, N: 1}, "day 1 1", []int{0, 20454, -719162, -719528}, []int{1, -1, 20574, -719163}},
	{rule.Rule{Kind: rule.MonthDay, Month: 5, N: -31}, "day 5 -31", []int{20574}, []int{20454, 20573, 20604}},

	{rule.Rule{Kind: rule.Nth, Month: 5, N: -1, Weekday: 1}, "nth 5 -1 1", []int{20598}, []int{20591, 20605, 20599, 20604, 20633, 20577}},
	{rule.Rule{Kind: rule.Nth, Month: 5, N: 1, Weekday: 1}, "nth 5 1 1", []int{20577}, []int{20570, 20584, 20598, 20578}},
	{rule.Rule{Kind: rule.Nth, Month: 5, N: 5, Weekday: 5}, "nth 5 5 5", []int{20602}, []int{20595, 20609, 20574, 20603}},
	{rule.Rule{Kind: rule.Nth, Month: 5, N: -5, Weekday: 5}, "nth 5 -5 5", []int{20574}, []int{20602, 20581, 20573, 20567}},
	{rule.Rule{Kind: rule.Nth, Month: 2, N: 5, Weekday: 4}, "nth 2 5 4", []int{19782}, []int{19775, 19789, 20506, 19754}},
	{rule.Rule{Kind: rule.Nth, Month: 2, N: -5, Weekday: 4}, "nth 2 -5 4", []int{19754}, []int{19782, 19761, 20485}},
	{rule.Rule{Kind: rule.Nth, N: 4}, "nth 0 4 0", []int{20506}, []int{20485, 20499, 20513, 20507}},
	{rule.Rule{Kind: rule.Nth, N: -4}, "nth 0 -4 0", []int{20485}, []int{20506, 20492, 20478}},
	{rule.Rule{Kind: rule.Nth, N: 5, Weekday: 1}, "nth 0 5 1", []int{20696, 20787, 20633}, []int{20598, 20668, 20689}},
	{rule.Rule{Kind: rule.Nth, N: -5, Weekday: 1}, "nth 0 -5 1", []int{20668, 20605}, []int{20696, 20577, 20675}},
	{rule.Rule{Kind: rule.Nth, N: 1, Weekday: 6}, "nth 0 1 6", []int{20575, mostDays}, []int{20603, 20582, mostDays - 7}},
	{rule.Rule{Kind: rule.Nth, Month: 12, N: -1, Weekday: 2}, "nth 12 -1 2", []int{20088, -mostDays}, []int{20081, 20095, 7 - mostDays}},

	{rule.Rule{Kind: rule.Dates, From: civil.Date{Y: 2026, M: 5, D: 1}, To: civil.Date{Y: 2026, M: 5, D: 31}}, "dates 2026-5-1 2026-5-31", []int{20574, 20575, 20598, 20603, 20604}, []int{20573, 20605, 0, mostDays, -mostDays}},
	{rule.Rule{Kind: rule.Dates, From: civil.Date{Y: 2024, M: 2, D: 29}, To: civil.Date{Y: 2024, M: 2, D: 29}}, "dates 2024-2-29 2024-2-29", []int{19782}, []int{19781, 19783}},
	{rule.Rule{Kind: rule.Dates, From: civil.Date{Y: 2024, M: 12, D: 31}, To: civil.Date{Y: 2026, M: 1, D: 1}}, "dates 2024-12-31 2026-1-1", []int{20088, 20089, 20300, 20453, 20454}, []int{20087, 20455}},
	{rule.Rule{Kind: rule.Dates, From: civil.Date{Y: 0, M: 1, D: 1}, To: civil.Date{Y: 9999, M: 12, D: 31}}, "dates 0-1-1 9999-12-31", []int{-719528, -719527, 0, 20775, 2932895, 2932896}, []int{-719529, 2932897, mostDays, -mostDays, -719894}},
	{rule.Rule{Kind: rule.Dates, From: civil.Date{Y: 0, M: 2, D: 29}, To: civil.Date{Y: 1, M: 1, D: 1}}, "dates 0-2-29 1-1-1", []int{-719469, -719163, -719162}, []int{-719470, -719161}},
	{rule.Rule{Kind: rule.Dates, From: civil.Date{Y: 5, M: 10, D: 10}, To: civil.Date{Y: 1970, M: 1, D: 1}}, "dates 5-10-10 1970-1-1", []int{-1, 0}, []int{1}},
	{rule.Rule{Kind: rule.Dates, From: civil.Date{Y: 99, M: 9, D: 9}, To: civil.Date{Y: 100, M: 11, D: 30}}, "dates 99-9-9 100-11-30", nil, []int{0, 20775}},
	{rule.Rule{Kind: rule.Dates, From: civil.Date{Y: 9999, M: 12, D: 31}, To: civil.Date{Y: 9999, M: 12, D: 31}}, "dates 9999-12-31 9999-12-31", []int{2932896}, []int{2932895, 2932897}},
}

// holds tells whether an error is just that number.
func holds(err error, want api.Errno) bool {
	var got api.Errno
	return errors.As(err, &got) && got == want
}

// isRule asks for a rule that may be.
func isRule(t *testing.T, r rule.Rule) {
	t.Helper()
	if err := rule.Check(r); err != nil {
		t.Errorf("Check(%v): %v", r, err)
	}
}

// noRule asks for a rule that may not be, by all that takes one.
func noRule(t *testing.T, r rule.Rule) {
	t.Helper()
	if err := rule.Check(r); !holds(err, api.ErrArg) {
		t.Errorf("Check(%v): %v", r, err)
	}
	for _, day := range []int{0, 20598, mostDays, -mostDays, mostDays + 1, math.MinInt} {
		if yes, err := rule.Match(r, day); yes || !holds(err, api.ErrArg) {
			t.Errorf("Match(%v, %d): %v, %v", r, day, yes, err)
		}
	}
	if s, err := rule.Text(r); s != "" || !holds(err, api.ErrArg) {
		t.Errorf("Text(%v): %q, %v", r, s, err)
	}
}

// isMatch asks whether a day is meant.
func isMatch(t *testing.T, r rule.Rule, day int, want bool) {
	t.Helper()
	if yes, err := rule.Match(r, day); yes != want || err != nil {
		t.Errorf("Match(%v, %d): %v, %v, not %v", r, day, yes, err, want)
	}
}

// isText asks for a rule's text, and for the rule of that.
func isText(t *testing.T, r rule.Rule, want string) {
	t.Helper()
	if s, err := rule.Text(r); s != want || err != nil {
		t.Errorf("Text(%v): %q, %v, not %q", r, s, err, want)
	}
	if got, err := rule.Parse(want); got != r || err != nil {
		t.Errorf("Parse(%q): %v, %v, not %v", want, got, err, r)
	}
}

// noText asks for a text that is no rule's.
func noText(t *testing.T, s string) {
	t.Helper()
	if r, err := rule.Parse(s); r != (rule.Rule{}) || !holds(err, api.ErrForm) {
		t.Errorf("Parse(%.40q), of %d bytes: %v, %v", s, len(s), r, err)
	}
}

// places are those from 1 to the most one, from the begin and from the end.
func places(most int) []int {
	var all []int
	for n := 1; n <= most; n++ {
		all = append(all, n, -n)
	}
	return all
}

// plain are all rules that may be, but for those of dates, by their texts.
func plain() map[string]rule.Rule {
	all := map[string]rule.Rule{}
	for w := range 7 {
		all[fmt.Sprintf("weekday %d", w)] = rule.Rule{Kind: rule.Weekday, Weekday: w}
	}
	for m := range 13 {
		for _, n := range places(31) {
			all[fmt.Sprintf("day %d %d", m, n)] = rule.Rule{Kind: rule.MonthDay, Month: m, N: n}
		}
		for _, n := range places(5) {
			for w := range 7 {
				all[fmt.Sprintf("nth %d %d %d", m, n, w)] = rule.Rule{Kind: rule.Nth, Month: m, N: n, Weekday: w}
			}
		}
	}
	return all
}

// leap tells whether a year has a day more.
func leap(y int) bool { return y%4 == 0 && (y%100 != 0 || y%400 == 0) }

// length is how many days a month has.
func length(y, m int) int {
	switch {
	case m == 2 && leap(y):
		return 29
	case m == 2:
		return 28
	case m == 4 || m == 6 || m == 9 || m == 11:
		return 30
	default:
		return 31
	}
}

// isDate tells whether a date may be in a rule.
func isDate(d civil.Date) bool {
	return d.Y >= 0 && d.Y <= 9999 && d.M >= 1 && d.M <= 12 && d.D >= 1 && d.D <= length(d.Y, d.M)
}

// isBehind tells whether a date lies behind another one.
func isBehind(a, b civil.Date) bool {
	if a.Y != b.Y {
		return a.Y > b.Y
	}
	if a.M != b.M {
		return a.M > b.M
	}
	return a.D > b.D
}

// dates is a rule of dates.
func dates(from, to civil.Date) rule.Rule { return rule.Rule{Kind: rule.Dates, From: from, To: to} }

// isSpan holds a rule of dates against what its dates are.
func isSpan(t *testing.T, from, to civil.Date) {
	t.Helper()
	r := dates(from, to)
	if !isDate(from) || !isDate(to) || isBehind(from, to) {
		noRule(t, r)
		return
	}
	isRule(t, r)
	isText(t, r, fmt.Sprintf("dates %d-%d-%d %d-%d-%d", from.Y, from.M, from.D, to.Y, to.M, to.D))
}

// fields are the places of all numbers of a rule, but for its kind.
func fields(r *rule.Rule) []*int {
	return []*int{&r.Month, &r.N, &r.Weekday, &r.From.Y, &r.From.M, &r.From.D, &r.To.Y, &r.To.M, &r.To.D}
}

// RL1: kinds have the numbers that the chapter tells.
func TestKinds(t *testing.T) {
	if rule.Weekday != 0 || rule.MonthDay != 1 || rule.Nth != 2 || rule.Dates != 3 {
		t.Errorf("kinds: %d %d %d %d", rule.Weekday, rule.MonthDay, rule.Nth, rule.Dates)
	}
}

// RL1: a rule of a kind that there is not may not be, whatever it has.
func TestWrongKinds(t *testing.T) {
	for _, kind := range slices.Concat([]int{-1, 4, 5, -2, -3, 256, 257}, farInts) {
		noRule(t, rule.Rule{Kind: kind})
		for _, c := range known {
			r := c.r
			r.Kind = kind
			noRule(t, r)
		}
	}
}

// RL1: every weekday may be, and none beyond them.
func TestCheckWeekday(t *testing.T) {
	for w := range 7 {
		isRule(t, rule.Rule{Weekday: w})
	}
	for _, w := range slices.Concat([]int{-1, 7, -2, 8, -7, 14}, farInts) {
		noRule(t, rule.Rule{Weekday: w})
	}
}

// RL1: every month and every day of it may be, from the begin and from the end, and none beyond them.
func TestCheckMonthDay(t *testing.T) {
	for m := -3; m <= 15; m++ {
		for n := -35; n <= 35; n++ {
			r := rule.Rule{Kind: rule.MonthDay, Month: m, N: n}
			if m >= 0 && m <= 12 && n != 0 && n >= -31 && n <= 31 {
				isRule(t, r)
			} else {
				noRule(t, r)
			}
		}
	}
	for _, far := range farInts {
		noRule(t, rule.Rule{Kind: rule.MonthDay, Month: far, N: 1})
		noRule(t, rule.Rule{Kind: rule.MonthDay, Month: 1, N: far})
	}
}

// RL1: every weekday's places in every month may be, from the begin and from the end, and none beyond them.
func TestCheckNth(t *testing.T) {
	for m := -2; m <= 14; m++ {
		for n := -7; n <= 7; n++ {
			for w := -2; w <= 8; w++ {
				r := rule.Rule{Kind: rule.Nth, Month: m, N: n, Weekday: w}
				if m >= 0 && m <= 12 && n != 0 && n >= -5 && n <= 5 && w >= 0 && w <= 6 {
					isRule(t, r)
				} else {
					noRule(t, r)
				}
			}
		}
	}
	for _, far := range farInts {
		noRule(t, rule.Rule{Kind: rule.Nth, Month: far, N: 1, Weekday: 1})
		noRule(t, rule.Rule{Kind: rule.Nth, Month: 1, N: far, Weekday: 1})
		noRule(t, rule.Rule{Kind: rule.Nth, Month: 1, N: 1, Weekday: far})
	}
}

// RL1: dates, dates that are none and years at both ends, ahead of one another, on one another and behind one another.
func TestCheckDates(t *testing.T) {
	var all []civil.Date
	for _, y := range []int{-9999, -4, -1, 0, 1, 4, 99, 100, 400, 1900, 1970, 2000, 2024, 2026, 9996, 9999, 10000, 1 << 38, 1<<38 + 1, -1 << 38, math.MaxInt, math.MinInt} {
		for _, m := range []int{-1, 0, 1, 2, 3, 4, 12, 13, math.MinInt, math.MaxInt} {
			for _, d := range []int{-1, 0, 1, 28, 29, 30, 31, 32} {
				all = append(all, civil.Date{Y: y, M: m, D: d})
			}
		}
	}
	r := rand.New(rand.NewSource(1))
	for _, from := range all {
		isSpan(t, from, from)
		isSpan(t, civil.Date{Y: 0, M: 1, D: 1}, from)
		isSpan(t, from, civil.Date{Y: 9999, M: 12, D: 31})
		isSpan(t, civil.Date{Y: 2024, M: 2, D: 29}, from)
		isSpan(t, from, civil.Date{Y: 2024, M: 2, D: 29})
		for range 5 {
			isSpan(t, from, all[r.Intn(len(all))])
		}
	}
}

// RL1: From on To may be; From behind To by a day, by a month or by a year may not.
func TestCheckDatesInOrder(t *testing.T) {
	for _, c := range [][2]civil.Date{
		{{Y: 2026, M: 5, D: 2}, {Y: 2026, M: 5, D: 1}},
		{{Y: 2026, M: 6, D: 1}, {Y: 2026, M: 5, D: 31}},
		{{Y: 2027, M: 1, D: 1}, {Y: 2026, M: 12, D: 31}},
		{{Y: 2024, M: 3, D: 1}, {Y: 2024, M: 2, D: 29}},
		{{Y: 1, M: 1, D: 1}, {Y: 0, M: 12, D: 31}},
		{{Y: 9999, M: 12, D: 31}, {Y: 0, M: 1, D: 1}},
	} {
		noRule(t, dates(c[0], c[1]))
		isRule(t, dates(c[1], c[0]))
		isRule(t, dates(c[0], c[0]))
		isRule(t, dates(c[1], c[1]))
	}
}

// RL1: what a rule's kind has not must be zero, each field alone and with others.
func TestCheckOfWhatTheKindHasNot(t *testing.T) {
	has := [][]int{{2}, {0, 1}, {0, 1, 2}, {3, 4, 5, 6, 7, 8}}
	for _, c := range known {
		isRule(t, c.r)
		for i := range 9 {
			if slices.Contains(has[c.r.Kind], i) {
				continue
			}
			for _, n := range slices.Concat([]int{1, -1, 2, 5, 6, 12, 31, 2026}, farInts) {
				r := c.r
				*fields(&r)[i] = n
				noRule(t, r)
			}
		}
		r := c.r
		if c.r.Kind == rule.Dates {
			r.Month, r.N, r.Weekday = 5, -1, 1
		} else {
			r.From, r.To = civil.Date{Y: 2026, M: 5, D: 1}, civil.Date{Y: 2026, M: 5, D: 31}
		}
		noRule(t, r)
	}
	// The month, or the place in it, is what another kind has.
	noRule(t, rule.Rule{Kind: rule.Weekday, Month: 5, N: -1, Weekday: 1})
	noRule(t, rule.Rule{Kind: rule.MonthDay, Month: 5, N: -1, Weekday: 1})
}

// RL1: a rule with nothing in it but its kind is only a weekday's.
func TestCheckOfEmptyRules(t *testing.T) {
	isRule(t, rule.Rule{})
	for _, kind := range []int{rule.MonthDay, rule.Nth, rule.Dates} {
		noRule(t, rule.Rule{Kind: kind})
	}
}

// RL1: days that are known are meant, or not.
func TestMatchOfKnownDays(t *testing.T) {
	for _, c := range known {
		for _, day := range c.yes {
			isMatch(t, c.r, day, true)
		}
		for _, day := range c.no {
			isMatch(t, c.r, day, false)
		}
	}
}

// RL1: a day that layer 4 does not take is none, of each kind.
func TestMatchOfWrongDays(t *testing.T) {
	for _, c := range known {
		for _, day := range []int{mostDays, mostDays - 1, -mostDays, 1 - mostDays} {
			if _, err := rule.Match(c.r, day); err != nil {
				t.Errorf("Match(%v, %d): %v", c.r, day, err)
			}
		}
		for _, day := range []int{mostDays + 1, mostDays + 2, -mostDays - 1, -mostDays - 2, 1 << 47, -1 << 47, math.MaxInt, math.MaxInt - 1, math.MinInt, math.MinInt + 1} {
			if yes, err := rule.Match(c.r, day); yes || !holds(err, api.ErrArg) {
				t.Errorf("Match(%v, %d): %v, %v", c.r, day, yes, err)
			}
		}
	}
}

// month is a month, with the day that it begins on, and that day's weekday.
type month struct{ y, m, day, weekday int }

// months are those of so many years from one on, whose first day is known.
func months(first month, years int) []month {
	var all []month
	for at := first; at.y < first.y+years; {
		all = append(all, at)
		n := length(at.y, at.m)
		at.day, at.weekday = at.day+n, (at.weekday+n)%7
		if at.m++; at.m > 12 {
			at.y, at.m = at.y+1, 1
		}
	}
	return all
}

// somewhere are months of ordinary years, of years without a day more that are multiples of 4, and of years below 0 and far ones.
func somewhere() []month {
	return slices.Concat(
		months(month{2023, 1, 19358, 0}, 5),
		months(month{1970, 1, 0, 4}, 2),
		months(month{1899, 1, -25932, 0}, 3),
		months(month{1999, 1, 10592, 5}, 3),
		months(month{-1, 1, -719893, 5}, 3),
		months(month{-401, 1, -865990, 5}, 3),
		months(month{9999, 1, 2932532, 5}, 3),
		months(month{192663079726, 1, mostDays - 3 - 365, 2}, 1),
		months(month{-192663075787, 1, 3 - mostDays, 5}, 1),
	)
}

// byWeekday are a month's days of a weekday.
func (m month) byWeekday(w int) []int {
	var all []int
	for i := range length(m.y, m.m) {
		if (m.weekday+i)%7 == w {
			all = append(all, i+1)
		}
	}
	return all
}

// at is what stands at a place of a list, from its begin or from its end, and 0 if nothing does.
func at(list []int, n int) int {
	switch {
	case n > 0 && n <= len(list):
		return list[n-1]
	case n < 0 && -n <= len(list):
		return list[len(list)+n]
	default:
		return 0
	}
}

// isMonth holds the days that a rule means in a month against a list of them.
func (m month) isMonth(t *testing.T, r rule.Rule, want ...int) {
	t.Helper()
	for i := range length(m.y, m.m) {
		isMatch(t, r, m.day+i, slices.Contains(want, i+1))
	}
}

// RL1: the months that tests go over are those of layer 4.
func TestMonths(t *testing.T) {
	for _, m := range somewhere() {
		d, err := civil.Of(m.day)
		if want := (civil.Date{Y: m.y, M: m.m, D: 1}); d != want || err != nil {
			t.Errorf("Of(%d): %v, %v, not %v", m.day, d, err, want)
		}
		if w := civil.Weekday(m.day); w != m.weekday {
			t.Errorf("Weekday(%d): %d, not %d", m.day, w, m.weekday)
		}
	}
}

// RL1: what each weekday means, in all months.
func TestMatchWeekday(t *testing.T) {
	for _, m := range somewhere() {
		for w := range 7 {
			m.isMonth(t, rule.Rule{Weekday: w}, m.byWeekday(w)...)
		}
	}
}

// RL1 and RL3: of a month just one day is meant by MonthDay, if there is one.
func TestMatchMonthDay(t *testing.T) {
	for _, m := range somewhere() {
		var days []int
		for i := range length(m.y, m.m) {
			days = append(days, i+1)
		}
		for _, n := range places(31) {
			want := at(days, n)
			m.isMonth(t, rule.Rule{Kind: rule.MonthDay, N: n}, want)
			m.isMonth(t, rule.Rule{Kind: rule.MonthDay, Month: m.m, N: n}, want)
			m.isMonth(t, rule.Rule{Kind: rule.MonthDay, Month: m.m%12 + 1, N: n})
			m.isMonth(t, rule.Rule{Kind: rule.MonthDay, Month: (m.m+10)%12 + 1, N: n})
		}
	}
}

// RL1: what each place of a weekday means, in all months; a fifth one in those alone that have it.
func TestMatchNth(t *testing.T) {
	for _, m := range somewhere() {
		for w := range 7 {
			days := m.byWeekday(w)
			for _, n := range places(5) {
				want := at(days, n)
				m.isMonth(t, rule.Rule{Kind: rule.Nth, N: n, Weekday: w}, want)
				m.isMonth(t, rule.Rule{Kind: rule.Nth, Month: m.m, N: n, Weekday: w}, want)
				m.isMonth(t, rule.Rule{Kind: rule.Nth, Month: m.m%12 + 1, N: n, Weekday: w})
				m.isMonth(t, rule.Rule{Kind: rule.Nth, Month: (m.m+10)%12 + 1, N: n, Weekday: w})
			}
		}
	}
}

// meant are the days of a month that a rule means.
func (m month) meant(t *testing.T, r rule.Rule) []int {
	t.Helper()
	var all []int
	for i := range length(m.y, m.m) {
		yes, err := rule.Match(r, m.day+i)
		if err != nil {
			t.Fatalf("Match(%v, %d): %v", r, m.day+i, err)
		}
		if yes {
			all = append(all, m.day+i)
		}
	}
	return all
}

// RL3: how many days of a month MonthDay means: one, or none where the month is too short.
func TestMonthDayMeansOneDay(t *testing.T) {
	for _, m := range somewhere() {
		for _, n := range places(31) {
			want := 0
			if max(n, -n) <= length(m.y, m.m) {
				want = 1
			}
			r := rule.Rule{Kind: rule.MonthDay, N: n}
			if got := len(m.meant(t, r)); got != want {
				t.Errorf("%v means %d days of %v", r, got, m)
			}
		}
	}
}

// RL3: the first to the fifth lie seven days apart, those from the end, too, and both are all days of the weekday.
func TestNthLieSevenDaysApart(t *testing.T) {
	for _, m := range somewhere() {
		for w := range 7 {
			var begin, end []int
			for n := 1; n <= 5; n++ {
				begin = append(begin, m.meant(t, rule.Rule{Kind: rule.Nth, Month: m.m, N: n, Weekday: w})...)
				end = append(end, m.meant(t, rule.Rule{Kind: rule.Nth, Month: m.m, N: -n, Weekday: w})...)
			}
			slices.Reverse(end)
			if all := m.meant(t, rule.Rule{Weekday: w}); !slices.Equal(begin, all) || !slices.Equal(end, all) {
				t.Errorf("%v, weekday %d: %v, %v, not %v", m, w, begin, end, all)
			}
			for i := 1; i < len(begin); i++ {
				if begin[i]-begin[i-1] != 7 {
					t.Errorf("%v, weekday %d: %v", m, w, begin)
				}
			}
		}
	}
}

// RL1: from From to To, both too, wherever they lie.
func TestMatchDates(t *testing.T) {
	r := rand.New(rand.NewSource(2))
	some := func() (civil.Date, int) {
		n := r.Intn(2932896+719528+1) - 719528
		d, err := civil.Of(n)
		if err != nil {
			t.Fatalf("Of(%d): %v", n, err)
		}
		return d, n
	}
	for range 20000 {
		from, first := some()
		to, last := some()
		if first > last {
			from, first, to, last = to, last, from, first
		}
		for _, day := range []int{first - 1, first, first + 1, (first + last) / 2, last - 1, last, last + 1} {
			isMatch(t, dates(from, to), day, first <= day && day <= last)
		}
	}
}

// RL2: rules that are known have their texts.
func TestKnownTexts(t *testing.T) {
	for _, c := range known {
		isText(t, c.r, c.text)
	}
}

// RL2: every rule but for those of dates has its text, and the text its rule.
func TestAllTexts(t *testing.T) {
	all := plain()
	if len(all) != 7+13*62+13*10*7 {
		t.Errorf("%d texts", len(all))
	}
	for s, r := range all {
		isText(t, r, s)
	}
}

// RL2: years of each count of digits.
func TestTextsOfYears(t *testing.T) {
	for y := range 10000 {
		from := civil.Date{Y: y, M: y%12 + 1, D: y%28 + 1}
		to := civil.Date{Y: max(y, 9999-y), M: 12, D: 31}
		isSpan(t, from, to)
	}
}

// datesForm is the form of a text of dates, if its dates are dates.
var datesForm = regexp.MustCompile(`^dates (0|[1-9][0-9]{0,3})-([1-9]|1[0-2])-([1-9]|[12][0-9]|3[01]) (0|[1-9][0-9]{0,3})-([1-9]|1[0-2])-([1-9]|[12][0-9]|3[01])$`)

// asDates is the rule of a text of dates, if it is one.
func asDates(s string) (rule.Rule, bool) {
	found := datesForm.FindStringSubmatch(s)
	if found == nil || strings.HasSuffix(s, "\n") {
		return rule.Rule{}, false
	}
	var n [7]int
	for i := 1; i < 7; i++ {
		n[i], _ = strconv.Atoi(found[i])
	}
	from, to := civil.Date{Y: n[1], M: n[2], D: n[3]}, civil.Date{Y: n[4], M: n[5], D: n[6]}
	return dates(from, to), isDate(from) && isDate(to) && !isBehind(from, to)
}

// isParse holds what is read against all texts that there are.
func isParse(t *testing.T, all map[string]rule.Rule, s string) {
	t.Helper()
	want, ok := all[s]
	if !ok {
		want, ok = asDates(s)
	}
	if !ok {
		noText(t, s)
	} else if r, err := rule.Parse(s); r != want || err != nil {
		t.Errorf("Parse(%q): %v, %v, not %v", s, r, err, want)
	}
}

// RL2: whatever byte stands in a place, is put in, or is left out.
func TestParseOfAllBytes(t *testing.T) {
	all := plain()
	for _, c := range known {
		s := c.text
		for i := range len(s) {
			isParse(t, all, s[:i]+s[i+1:])
			isParse(t, all, s[:i])
			isParse(t, all, s[i:])
			for b := range 256 {
				isParse(t, all, s[:i]+string([]byte{byte(b)})+s[i+1:])
				isParse(t, all, s[:i]+string([]byte{byte(b)})+s[i:])
				isParse(t, all, s+string([]byte{byte(b)}))
			}
		}
	}
}

// RL2: whatever texts of numbers stand behind a kind's word.
func TestParseOfAllNumbers(t *testing.T) {
	all := plain()
	texts := []string{"", "-", "+", "+1", "-0", "00", "01", "-01", "0x1", "1.0", "1_0", "1e1", "1-1-1", "9999999999999999999", "-9999999999999999999", "9223372036854775808", "-9223372036854775809", "18446744073709551617", "4294967297"}
	for n := -33; n <= 33; n++ {
		texts = append(texts, strconv.Itoa(n))
	}
	for _, word := range []string{"weekday", "day", "nth", "dates", "month", "monthday", ""} {
		for _, a := range texts {
			isParse(t, all, word+" "+a)
			for _, b := range texts {
				isParse(t, all, word+" "+a+" "+b)
				for _, c := range texts[len(texts)-45:] {
					isParse(t, all, word+" "+a+" "+b+" "+c)
				}
			}
		}
	}
}

// RL2: whatever numbers stand in the places of a date.
func TestParseOfAllDates(t *testing.T) {
	for _, y := range []string{"0", "1", "4", "100", "2024", "2026", "9999", "10000", "-1", "-0", "+1", "00", "0001", "02026", "", "9223372036854775808", "18446744073709553640"} {
		for _, m := range []string{"0", "1", "2", "02", "4", "12", "13", "-1", "+1", ""} {
			for _, d := range []string{"0", "1", "01", "28", "29", "30", "31", "32", "-1", "+1", ""} {
				s := y + "-" + m + "-" + d
				isParse(t, nil, "dates "+s+" "+s)
				isParse(t, nil, "dates 0-1-1 "+s)
				isParse(t, nil, "dates "+s+" 9999-12-31")
				isParse(t, nil, "dates "+s+" 2024-2-29")
				isParse(t, nil, "dates 2024-2-29 "+s)
				isParse(t, nil, "dates "+s)
				isParse(t, nil, "dates "+s+" ")
				isParse(t, nil, "dates  "+s)
			}
		}
	}
}

// RL2: texts that are no rule's, for one reason or for more.
func TestParseOfWrongTexts(t *testing.T) {
	for _, s := range []string{
		"", " ", "0", "weekday", "day", "nth", "dates", "weekday ", "day ", "nth ", "dates ", "day 1 ", "nth 1 1 ", "dates 2026-5-1 ",
		"weekday 7", "weekday -1", "weekday 00", "weekday 01", "weekday +1", "weekday -0", "weekday 1 ", " weekday 1", "weekday  1", "weekday\t1", "weekday 1\n", "weekday 1\x00", "weekday1", "weekday 1 1", "weekday 1 0", "weekday one", "Weekday 1", "WEEKDAY 1", "weekdays 1", "weekda 1", "weekday monday", "weekday \u0661", "weekday \uff11", "weekday\u00a01",
		"day 1", "day 13 1", "day -1 1", "day 0 0", "day 1 0", "day 1 32", "day 1 -32", "day 01 1", "day 1 01", "day 1 -01", "day 1 +1", "day +1 1", "day -0 1", "day 1 -0", "day 1 1 1", "day 1  1", "day  1 1", "day 1 1 ", "day 1 - 1", "day 1 --1", "day 1,1", "day 1-1", "day 1 1 0", "monthday 1 1", "day 1 1.0", "day 1 1e0", "day 1 0x1", "day 1 1_0",
		"nth 5 -1", "nth 5 -1 7", "nth 5 -1 -1", "nth 5 6 1", "nth 5 -6 1", "nth 5 0 1", "nth 13 1 1", "nth -1 1 1", "nth 5 -1 1 ", "nth 5 -1  1", "nth 5  -1 1", "nth  5 -1 1", " nth 5 -1 1", "nth 05 -1 1", "nth 5 -01 1", "nth 5 -1 01", "nth 5 -1 +1", "nth 5 +1 1", "nth 5 -1 -0", "nth 5 -1 1 1", "nth 5 -1 1 0", "Nth 5 -1 1", "nth 5 -1 1\n",
		"dates 2026-5-1", "dates 2026-5-1 2026-4-30", "dates 2026-05-1 2026-5-31", "dates 2026-5-01 2026-5-31", "dates 2026-5-1 2026-5-32", "dates 2026-2-29 2026-5-31", "dates 1900-2-29 2026-5-31", "dates 2026-5-1 10000-1-1", "dates -1-1-1 2026-5-1", "dates -1-1-1 -1-1-1", "dates 2026-5-1 2026-13-1", "dates 2026-0-1 2026-5-1", "dates 2026-5-0 2026-5-1", "dates 2026-5-1  2026-5-31", "dates 2026-5-1 2026-5-31 ", "dates 2026-5-1-2026-5-31", "dates 2026 5 1 2026 5 31", "dates 2026-5 2026-6", "dates 2026-5-1-1 2026-5-31", "dates 2026-5-1 2026-5-31-1", "dates 2026-5-1 2026-5-31 2026-6-1", "dates 2026--5-1 2026-5-31", "dates 2026-5--1 2026-5-31", "dates +2026-5-1 2026-5-31", "dates 2026/5/1 2026/5/31", "dates 0000-1-1 2026-5-31", "dates 00-1-1 2026-5-31", "dates -0-1-1 2026-5-31", "dates - -", "dates -- --", "dates 2026-5-1 ", "dates  2026-5-1", "date 2026-5-1 2026-5-31", "dates 2026-5-1 2026-5-31\n",
		"weekday 9223372036854775807", "weekday 9223372036854775808", "weekday -9223372036854775809", "weekday 18446744073709551616", "weekday 18446744073709551617", "day 1 18446744073709551617", "day 18446744073709551617 1", "nth 18446744073709551617 1 1", "nth 1 -18446744073709551617 1", "dates 18446744073709553642-5-1 2026-5-31", "dates 2026-5-1 2026-5-18446744073709551617", "weekday 4294967297", "day 256 1", "day 1 257",
		"weekday 1 day 1 1", "day 1 1 weekday 1", "every 1", "nothing", "\x00", "\xff\xfe", "weekday \xff",
		"weekday " + strings.Repeat("0", api.MaxText), "weekday 1" + strings.Repeat(" ", api.MaxText), strings.Repeat(" ", api.MaxText) + "weekday 1", "weekday " + strings.Repeat("9", api.MaxText), strings.Repeat("weekday 1 ", api.MaxText), "dates " + strings.Repeat("-", api.MaxText), "nth" + strings.Repeat(" 1", api.MaxText), strings.Repeat("w", 1<<24),
	} {
		noText(t, s)
	}
}
