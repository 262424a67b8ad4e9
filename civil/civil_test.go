package civil_test

import (
	"errors"
	"math"
	"math/rand"
	"testing"

	"belvedere/api"
	"belvedere/civil"
)

const (
	mostYear = 1 << 38
	mostDays = 1 << 46
)

// A round is 400 years, behind which the calendar is the same again.
const (
	roundYears = 400
	roundDays  = 146097
)

// holds tells whether an error is just that number.
func holds(err error, want api.Errno) bool {
	var got api.Errno
	return errors.As(err, &got) && got == want
}

// leap is the rule as the chapter tells it, the strongest reason first.
func leap(y int) bool {
	switch {
	case y%400 == 0:
		return true
	case y%100 == 0:
		return false
	default:
		return y%4 == 0
	}
}

// length is a month's days, told month by month.
func length(y, m int) int {
	switch m {
	case 4, 6, 9, 11:
		return 30
	case 2:
		if leap(y) {
			return 29
		}
		return 28
	default:
		return 31
	}
}

// next is the next day's date.
func next(d civil.Date) civil.Date {
	switch {
	case d.D < length(d.Y, d.M):
		return civil.Date{Y: d.Y, M: d.M, D: d.D + 1}
	case d.M < 12:
		return civil.Date{Y: d.Y, M: d.M + 1, D: 1}
	default:
		return civil.Date{Y: d.Y + 1, M: 1, D: 1}
	}
}

// counted is a date's number, round by round and then year by year and month by month from 1970 on.
func counted(d civil.Date) int {
	rounds := (d.Y - 1970) / roundYears
	if d.Y < 1970 {
		rounds--
	}
	n := rounds * roundDays
	for y := 1970 + rounds*roundYears; y < d.Y; y++ {
		for m := 1; m <= 12; m++ {
			n += length(y, m)
		}
	}
	for m := 1; m < d.M; m++ {
		n += length(d.Y, m)
	}
	return n + d.D - 1
}

// known are dates with their numbers and weekdays.
var known = []struct {
	d          civil.Date
	n, weekday int
}{
	{civil.Date{Y: 1970, M: 1, D: 1}, 0, 4},
	{civil.Date{Y: 1970, M: 1, D: 2}, 1, 5},
	{civil.Date{Y: 1969, M: 12, D: 31}, -1, 3},
	{civil.Date{Y: 1970, M: 12, D: 31}, 364, 4},
	{civil.Date{Y: 1971, M: 1, D: 1}, 365, 5},
	{civil.Date{Y: 2000, M: 2, D: 29}, 11016, 2},
	{civil.Date{Y: 2000, M: 3, D: 1}, 11017, 3},
	{civil.Date{Y: 2026, M: 11, D: 18}, 20775, 3},
	{civil.Date{Y: 2100, M: 3, D: 1}, 47541, 1},
	{civil.Date{Y: 9999, M: 12, D: 31}, 2932896, 5},
	{civil.Date{Y: 1900, M: 2, D: 28}, -25509, 3},
	{civil.Date{Y: 1900, M: 3, D: 1}, -25508, 4},
	{civil.Date{Y: 1582, M: 10, D: 15}, -141427, 5},
	{civil.Date{Y: 1, M: 1, D: 1}, -719162, 1},
	{civil.Date{Y: 0, M: 12, D: 31}, -719163, 0},
	{civil.Date{Y: 0, M: 3, D: 1}, -719468, 3},
	{civil.Date{Y: 0, M: 2, D: 29}, -719469, 2},
	{civil.Date{Y: 0, M: 1, D: 1}, -719528, 6},
	{civil.Date{Y: -1, M: 12, D: 31}, -719529, 5},
	{civil.Date{Y: -1, M: 1, D: 1}, -719893, 5},
	{civil.Date{Y: -4, M: 2, D: 29}, -720930, 4},
	{civil.Date{Y: -100, M: 3, D: 1}, -755993, 4},
	{civil.Date{Y: -400, M: 2, D: 29}, -865566, 2},
	{civil.Date{Y: 192663079727, M: 1, D: 3}, mostDays - 1, 5},
	{civil.Date{Y: 192663079727, M: 1, D: 4}, mostDays, 6},
	{civil.Date{Y: -192663075788, M: 12, D: 30}, 1 - mostDays, 3},
	{civil.Date{Y: -192663075788, M: 12, D: 29}, -mostDays, 2},
}

// beyond are dates that may be, whose numbers may not.
var beyond = []struct {
	d civil.Date
	n int
}{
	{civil.Date{Y: 192663079727, M: 1, D: 5}, mostDays + 1},
	{civil.Date{Y: -192663075788, M: 12, D: 28}, -mostDays - 1},
	{civil.Date{Y: mostYear, M: 1, D: 1}, 100397093207466},
	{civil.Date{Y: mostYear, M: 2, D: 29}, 100397093207525},
	{civil.Date{Y: mostYear, M: 12, D: 31}, 100397093207831},
	{civil.Date{Y: -mostYear, M: 1, D: 1}, -100397094646522},
	{civil.Date{Y: -mostYear, M: 2, D: 29}, -100397094646463},
	{civil.Date{Y: -mostYear, M: 12, D: 31}, -100397094646157},
}

// isDays asks for a date's number.
func isDays(t *testing.T, d civil.Date, want int) {
	t.Helper()
	if n, err := civil.Days(d); n != want || err != nil {
		t.Errorf("Days(%v): %d, %v, not %d", d, n, err, want)
	}
}

// isOf asks for a number's date.
func isOf(t *testing.T, n int, want civil.Date) {
	t.Helper()
	if d, err := civil.Of(n); d != want || err != nil {
		t.Errorf("Of(%d): %v, %v, not %v", n, d, err, want)
	}
}

// CV1: leap years that are known, 0 and years below it too, and whatever an int holds.
func TestLeapOfKnownYears(t *testing.T) {
	for _, y := range []int{0, 4, 8, 96, 104, 400, 800, 1600, 2000, 2024, 2400, -4, -8, -96, -400, -800, -2000, mostYear, -mostYear, math.MinInt, math.MaxInt - 3} {
		if !civil.Leap(y) {
			t.Errorf("Leap(%d): no", y)
		}
	}
	for _, y := range []int{1, 2, 3, 5, 100, 200, 300, 1700, 1800, 1900, 1970, 2023, 2026, 2100, 2200, -1, -2, -3, -5, -100, -200, -300, -500, -1900, mostYear + 1, -mostYear - 1, math.MinInt + 1, math.MaxInt} {
		if civil.Leap(y) {
			t.Errorf("Leap(%d): yes", y)
		}
	}
}

// CV1: every year around 0 is as the rule says, and 97 of 400 are leap years, wherever one begins.
func TestLeapIsTheRule(t *testing.T) {
	for _, from := range []int{-2000, -401, -1, 0, 1, 1970, mostYear, -mostYear} {
		leaps := 0
		for y := from; y < from+roundYears; y++ {
			if civil.Leap(y) != leap(y) {
				t.Errorf("Leap(%d): %v", y, civil.Leap(y))
			}
			if civil.Leap(y) {
				leaps++
			}
		}
		if leaps != 97 {
			t.Errorf("from %d on: %d leap years of 400", from, leaps)
		}
	}
}

// CV1: every month of years of each kind, at the ends of what may be too.
func TestLength(t *testing.T) {
	for _, y := range []int{0, 1, 4, 100, 400, 1900, 1970, 2000, 2023, 2024, 2100, -1, -4, -100, -400, mostYear, mostYear - 1, -mostYear, -mostYear + 1} {
		for m := 1; m <= 12; m++ {
			if n, err := civil.Length(y, m); n != length(y, m) || err != nil {
				t.Errorf("Length(%d, %d): %d, %v, not %d", y, m, n, err, length(y, m))
			}
		}
	}
}

// CV1: months that are none, and years beyond what may be.
func TestLengthOfWrongNumbers(t *testing.T) {
	for _, c := range [][2]int{
		{2000, 0}, {2000, 13}, {2000, -1}, {2000, -2}, {2000, 14}, {2000, math.MinInt}, {2000, math.MaxInt},
		{0, 0}, {mostYear, 13}, {-mostYear, 0},
		{mostYear + 1, 1}, {-mostYear - 1, 1}, {mostYear + 1, 12}, {-mostYear - 1, 2}, {math.MinInt, 2}, {math.MaxInt, 2},
		{mostYear + 1, 0}, {math.MinInt, math.MinInt}, {math.MaxInt, math.MaxInt},
	} {
		if n, err := civil.Length(c[0], c[1]); n != 0 || !holds(err, api.ErrArg) {
			t.Errorf("Length(%d, %d): %d, %v", c[0], c[1], n, err)
		}
	}
}

// CV2, CV3: dates that are known have their numbers, the numbers their dates and weekdays.
func TestKnownDays(t *testing.T) {
	for _, c := range known {
		isDays(t, c.d, c.n)
		isOf(t, c.n, c.d)
		if w := civil.Weekday(c.n); w != c.weekday {
			t.Errorf("Weekday of %v: %d, not %d", c.d, w, c.weekday)
		}
	}
}

// CV2: a date that may be has its number, even where Of takes no such one.
func TestDaysBeyondWhatOfTakes(t *testing.T) {
	for _, c := range beyond {
		isDays(t, c.d, c.n)
		if d, err := civil.Of(c.n); d != (civil.Date{}) || !holds(err, api.ErrArg) {
			t.Errorf("Of(%d): %v, %v", c.n, d, err)
		}
	}
}

// CV2: each day of a month is one, and the ones ahead and behind are none, in years of each kind.
func TestDaysOfEachMonth(t *testing.T) {
	for _, y := range []int{-mostYear, -400, -100, -4, -1, 0, 1900, 1970, 2000, 2023, 2024, 2100, mostYear} {
		for m := 1; m <= 12; m++ {
			for day := -1; day <= 33; day++ {
				d := civil.Date{Y: y, M: m, D: day}
				if 1 <= day && day <= length(y, m) {
					isDays(t, d, counted(d))
				} else if n, err := civil.Days(d); n != 0 || !holds(err, api.ErrArg) {
					t.Errorf("Days(%v): %d, %v", d, n, err)
				}
			}
		}
	}
}

// CV2: dates that may not be, for one reason or for more.
func TestDaysOfWrongDates(t *testing.T) {
	for _, d := range []civil.Date{
		{}, {Y: 2000}, {Y: 2000, M: 1}, {Y: 2000, D: 1},
		{Y: 2000, M: 0, D: 1}, {Y: 2000, M: 13, D: 1}, {Y: 2000, M: -1, D: 1}, {Y: 2000, M: math.MinInt, D: 1}, {Y: 2000, M: math.MaxInt, D: 1},
		{Y: 2000, M: 1, D: 0}, {Y: 2000, M: 1, D: 32}, {Y: 2000, M: 1, D: math.MinInt}, {Y: 2000, M: 1, D: math.MaxInt},
		{Y: 2000, M: 4, D: 31}, {Y: 2000, M: 2, D: 30}, {Y: 2001, M: 2, D: 29}, {Y: 1900, M: 2, D: 29}, {Y: -1, M: 2, D: 29}, {Y: -100, M: 2, D: 29},
		{Y: mostYear + 1, M: 1, D: 1}, {Y: -mostYear - 1, M: 12, D: 31}, {Y: math.MaxInt, M: 1, D: 1}, {Y: math.MinInt, M: 1, D: 1},
		{Y: mostYear, M: 12, D: 32}, {Y: -mostYear, M: 1, D: 0}, {Y: mostYear, M: 13, D: 1},
		{Y: math.MinInt, M: math.MinInt, D: math.MinInt}, {Y: math.MaxInt, M: math.MaxInt, D: math.MaxInt},
	} {
		if n, err := civil.Days(d); n != 0 || !holds(err, api.ErrArg) {
			t.Errorf("Days(%v): %d, %v", d, n, err)
		}
	}
}

// CV2: numbers beyond what may be have no date.
func TestOfWrongNumbers(t *testing.T) {
	for _, n := range []int{mostDays + 1, -mostDays - 1, mostDays + 2, -mostDays - 2, 2 * mostDays, -2 * mostDays, 1 << 56, -1 << 56, api.MaxTime, -api.MaxTime, math.MaxInt, math.MinInt} {
		if d, err := civil.Of(n); d != (civil.Date{}) || !holds(err, api.ErrArg) {
			t.Errorf("Of(%d): %v, %v", n, d, err)
		}
	}
}

// CV2: there is a weekday of every number, at both ends of what an int holds too.
func TestWeekdayOfEveryNumber(t *testing.T) {
	for _, c := range [][2]int{
		{0, 4}, {1, 5}, {2, 6}, {3, 0}, {4, 1}, {5, 2}, {6, 3}, {7, 4},
		{-1, 3}, {-2, 2}, {-3, 1}, {-4, 0}, {-5, 6}, {-6, 5}, {-7, 4}, {-8, 3}, {18262, 3}, {18263, 4},
		{math.MaxInt, 4}, {math.MaxInt - 1, 3}, {math.MinInt, 3}, {math.MinInt + 1, 4},
	} {
		if w := civil.Weekday(c[0]); w != c[1] {
			t.Errorf("Weekday(%d): %d, not %d", c[0], w, c[1])
		}
	}
}

// CV2: the next day is the next weekday, and behind Saturday comes Sunday.
func TestWeekdaysOneBehindTheOther(t *testing.T) {
	for _, from := range []int{-1000, -mostDays - 50, mostDays - 50, math.MinInt, math.MaxInt - 1000, -1 << 62, 1 << 62} {
		for n := from; n < from+1000; n++ {
			if got, want := civil.Weekday(n+1), (civil.Weekday(n)+1)%7; got != want {
				t.Fatalf("Weekday(%d): %d, not %d", n+1, got, want)
			}
		}
	}
}

// walk goes from the day of a number and its date, day by day, so many days on.
func walk(t *testing.T, n int, d civil.Date, days int) {
	t.Helper()
	for range days {
		isDays(t, d, n)
		isOf(t, n, d)
		if t.Failed() {
			return
		}
		n, d = n+1, next(d)
	}
}

// CV2, CV3: over more than two rounds of the calendar, across the year 0 and 1970, each next day is the next date.
func TestNextDayIsNextDate(t *testing.T) {
	walk(t, -719529-roundDays, civil.Date{Y: -401, M: 12, D: 31}, 3*roundDays)
	walk(t, -366, civil.Date{Y: 1968, M: 12, D: 31}, roundDays)
}

// CV3: the same so at the ends of what may be.
func TestNextDayIsNextDateFarAway(t *testing.T) {
	walk(t, -mostDays, civil.Date{Y: -192663075788, M: 12, D: 29}, roundDays)
	d, err := civil.Of(mostDays - roundDays)
	if err != nil {
		t.Fatalf("Of: %v", err)
	}
	walk(t, mostDays-roundDays, d, roundDays+1)
}

// CV2, CV3: behind 400 years the calendar is the same again, however far away.
func TestRoundByRound(t *testing.T) {
	r := rand.New(rand.NewSource(4))
	for range 20000 {
		y := r.Intn(2*mostYear+1) - mostYear
		if r.Intn(2) == 0 {
			y = r.Intn(1<<37+1) - 1<<36
		}
		m := r.Intn(12) + 1
		d := civil.Date{Y: y, M: m, D: r.Intn(length(y, m)) + 1}
		n := counted(d)
		isDays(t, d, n)
		if -mostDays <= n && n <= mostDays {
			isOf(t, n, d)
		}
		if t.Failed() {
			return
		}
	}
}

// CV3: Days of Of is the number, at each size of numbers.
func TestDaysOfOf(t *testing.T) {
	r := rand.New(rand.NewSource(5))
	for bit := range 47 {
		for range 500 {
			n := r.Intn(1<<bit + 1)
			for _, n := range []int{n, -n, 1 << bit, -1 << bit} {
				d, err := civil.Of(n)
				if err != nil {
					t.Fatalf("Of(%d): %v", n, err)
				}
				isDays(t, d, n)
			}
		}
	}
}
