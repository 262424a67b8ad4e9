package clock_test

import (
	"errors"
	"fmt"
	"math"
	"math/big"
	"math/rand"
	"slices"
	"strings"
	"testing"

	"belvedere/api"
	"belvedere/civil"
	"belvedere/clock"
)

const (
	mostDays   = 1 << 46
	mostOffset = 50400
	lastTime   = 1 << 62
	// The last time lies on this day, at this second of it.
	lastDay    = 53375995583650
	lastSecond = 27904
)

// offsets are ordinary ones, and those at both ends.
var offsets = []int{0, 1, -1, 3600, -3600, 19800, -12600, 35999, 36000, 36001, -35999, mostOffset - 1, 1 - mostOffset, mostOffset, -mostOffset}

// wrongOffsets are none.
var wrongOffsets = []int{mostOffset + 1, -mostOffset - 1, api.Day, -api.Day, lastTime, -lastTime, math.MaxInt, math.MaxInt - 1, math.MinInt, math.MinInt + 1}

// times are those at both ends, and where days, and years of more digits, begin.
var times = []int{
	0, 1, 2, 59, 60, 35999, 36000, 36001, mostOffset - 1, mostOffset, mostOffset + 1, api.Day - 1, api.Day, api.Day + 1,
	951782399, 951782400, 1795036496, 253402300799, 253402300800, 1e15, 1e18,
	lastTime - api.Day, lastTime - mostOffset, lastTime - lastSecond - 1, lastTime - lastSecond, lastTime - 1, lastTime,
}

// wrongTimes are none.
var wrongTimes = []int{-1, -2, -mostOffset, -api.Day, lastTime + 1, lastTime + 2, lastTime + api.Day, -lastTime, math.MaxInt, math.MaxInt - 1, math.MinInt, math.MinInt + 1}

// known are times with what they are at an offset.
var known = []struct {
	t, offset int
	m         clock.Moment
	stamp     string
}{
	{0, 0, clock.Moment{}, "1970-01-01 00:00:00"},
	{1, 0, clock.Moment{Second: 1}, "1970-01-01 00:00:01"},
	{59, 0, clock.Moment{Second: 59}, "1970-01-01 00:00:59"},
	{60, 0, clock.Moment{Second: 60}, "1970-01-01 00:01:00"},
	{3600, 0, clock.Moment{Second: 3600}, "1970-01-01 01:00:00"},
	{86399, 0, clock.Moment{Second: 86399}, "1970-01-01 23:59:59"},
	{86400, 0, clock.Moment{Day: 1}, "1970-01-02 00:00:00"},
	{0, 1, clock.Moment{Second: 1}, "1970-01-01 00:00:01"},
	{0, 3600, clock.Moment{Second: 3600}, "1970-01-01 01:00:00"},
	{0, mostOffset, clock.Moment{Second: 50400}, "1970-01-01 14:00:00"},
	{86399, 1, clock.Moment{Day: 1}, "1970-01-02 00:00:00"},
	{86399, mostOffset, clock.Moment{Day: 1, Second: 50399}, "1970-01-02 13:59:59"},
	{0, -1, clock.Moment{Day: -1, Second: 86399}, "1969-12-31 23:59:59"},
	{0, -3600, clock.Moment{Day: -1, Second: 82800}, "1969-12-31 23:00:00"},
	{0, -mostOffset, clock.Moment{Day: -1, Second: 36000}, "1969-12-31 10:00:00"},
	{50399, -mostOffset, clock.Moment{Day: -1, Second: 86399}, "1969-12-31 23:59:59"},
	{50400, -mostOffset, clock.Moment{}, "1970-01-01 00:00:00"},
	{86400, -1, clock.Moment{Second: 86399}, "1970-01-01 23:59:59"},
	{951782399, 0, clock.Moment{Day: 11015, Second: 86399}, "2000-02-28 23:59:59"},
	{951782399, 1, clock.Moment{Day: 11016}, "2000-02-29 00:00:00"},
	{951868800, 0, clock.Moment{Day: 11017}, "2000-03-01 00:00:00"},
	{951868800, -3600, clock.Moment{Day: 11016, Second: 82800}, "2000-02-29 23:00:00"},
	{4107542399, 1, clock.Moment{Day: 47541}, "2100-03-01 00:00:00"},
	{1795036496, 19800, clock.Moment{Day: 20776, Second: 9896}, "2026-11-19 02:44:56"},
	{1795036496, -mostOffset, clock.Moment{Day: 20775, Second: 26096}, "2026-11-18 07:14:56"},
	{253402300799, 0, clock.Moment{Day: 2932896, Second: 86399}, "9999-12-31 23:59:59"},
	{253402300799, 1, clock.Moment{Day: 2932897}, "10000-01-01 00:00:00"},
	{253402300800, 0, clock.Moment{Day: 2932897}, "10000-01-01 00:00:00"},
	{253402300800, -1, clock.Moment{Day: 2932896, Second: 86399}, "9999-12-31 23:59:59"},
	{67767976233532799, 0, clock.Moment{Day: 784351576776, Second: 86399}, "2147483647-12-31 23:59:59"},
	{67767976233532800, 0, clock.Moment{Day: 784351576777}, "2147483648-01-01 00:00:00"},
	{1000000000000000000, 0, clock.Moment{Day: 11574074074074, Second: 6400}, "31688740476-10-23 01:46:40"},
	{lastTime - 1, 0, clock.Moment{Day: lastDay, Second: lastSecond - 1}, "146138514283-06-19 07:45:03"},
	{lastTime, 0, clock.Moment{Day: lastDay, Second: lastSecond}, "146138514283-06-19 07:45:04"},
	{lastTime, mostOffset, clock.Moment{Day: lastDay, Second: 78304}, "146138514283-06-19 21:45:04"},
	{lastTime, -mostOffset, clock.Moment{Day: lastDay - 1, Second: 63904}, "146138514283-06-18 17:45:04"},
}

// holds tells whether an error is just that number.
func holds(err error, want api.Errno) bool {
	var got api.Errno
	return errors.As(err, &got) && got == want
}

// isSplit asks for a time's moment.
func isSplit(t *testing.T, at, offset int, want clock.Moment) {
	t.Helper()
	if m, err := clock.Split(at, offset); m != want || err != nil {
		t.Errorf("Split(%d, %d): %v, %v, not %v", at, offset, m, err, want)
	}
}

// isJoin asks for a moment's time.
func isJoin(t *testing.T, m clock.Moment, offset, want int) {
	t.Helper()
	if at, err := clock.Join(m, offset); at != want || err != nil {
		t.Errorf("Join(%v, %d): %d, %v, not %d", m, offset, at, err, want)
	}
}

// noJoin asks for a moment that has no time.
func noJoin(t *testing.T, m clock.Moment, offset int, want api.Errno) {
	t.Helper()
	if at, err := clock.Join(m, offset); at != 0 || !holds(err, want) {
		t.Errorf("Join(%v, %d): %d, %v, not error %d", m, offset, at, err, int(want))
	}
}

// noForm asks for a text that is none.
func noForm(t *testing.T, s string) {
	t.Helper()
	if n, err := clock.Parse(s); n != 0 || !holds(err, api.ErrForm) {
		t.Errorf("Parse(%.20q), of %d bytes: %d, %v", s, len(s), n, err)
	}
}

// whole is a second's text.
func whole(s int) string { return fmt.Sprintf("%02d:%02d:%02d", s/3600, s%3600/60, s%60) }

// wrongTime gives each pair of a time and an offset of which one is none, or both are.
func wrongTime(try func(at, offset int)) {
	for _, at := range wrongTimes {
		for _, offset := range slices.Concat(wrongOffsets, offsets) {
			try(at, offset)
		}
	}
	for _, at := range times {
		for _, offset := range wrongOffsets {
			try(at, offset)
		}
	}
}

// CK1: an offset is as much as the chapter says.
func TestMaxOffset(t *testing.T) {
	if clock.MaxOffset != mostOffset {
		t.Errorf("MaxOffset: %d", clock.MaxOffset)
	}
}

// CK1: times that are known have their moments, and the moments their times.
func TestKnownMoments(t *testing.T) {
	for _, c := range known {
		isSplit(t, c.t, c.offset, c.m)
		isJoin(t, c.m, c.offset, c.t)
	}
}

// CK1: the next time is the next second, or the first one of the next day.
func TestNextSecond(t *testing.T) {
	for _, offset := range []int{0, mostOffset, -mostOffset, 1, -1} {
		for _, from := range []int{0, lastTime - 2*api.Day} {
			m, err := clock.Split(from, offset)
			if err != nil {
				t.Fatalf("Split(%d, %d): %v", from, offset, err)
			}
			for at := from; at < from+2*api.Day && !t.Failed(); at++ {
				isSplit(t, at, offset, m)
				m.Second++
				if m.Second == api.Day {
					m = clock.Moment{Day: m.Day + 1}
				}
			}
			isSplit(t, from+2*api.Day, offset, m)
		}
	}
}

// CK1: no moment of what is no time, or at what is no offset.
func TestSplitOfWrongNumbers(t *testing.T) {
	wrongTime(func(at, offset int) {
		if m, err := clock.Split(at, offset); m != (clock.Moment{}) || !holds(err, api.ErrArg) {
			t.Errorf("Split(%d, %d): %v, %v", at, offset, m, err)
		}
	})
}

// CK1: seconds at both ends of a day, and none beyond them.
func TestJoinSeconds(t *testing.T) {
	for _, day := range []int{1, 2, 20775, lastDay - 1} {
		for _, s := range []int{0, 1, 86398, 86399} {
			isJoin(t, clock.Moment{Day: day, Second: s}, 0, day*86400+s)
		}
		for _, s := range []int{-1, 86400, -2, 86401, -86400, -mostOffset, 2 * 86400, math.MinInt, math.MinInt + 1, math.MaxInt, math.MaxInt - 1} {
			for _, offset := range offsets {
				noJoin(t, clock.Moment{Day: day, Second: s}, offset, api.ErrArg)
			}
		}
	}
}

// CK1: the first time and the last one are reached from either side, and no time lies beyond them.
func TestJoinAtBothEnds(t *testing.T) {
	for _, c := range []struct {
		m            clock.Moment
		offset, want int
	}{
		{clock.Moment{}, 0, 0},
		{clock.Moment{}, 1, -1},
		{clock.Moment{}, mostOffset, -mostOffset},
		{clock.Moment{Second: 50399}, mostOffset, -1},
		{clock.Moment{Second: 50400}, mostOffset, 0},
		{clock.Moment{Day: -1, Second: 86399}, 0, -1},
		{clock.Moment{Day: -1, Second: 86399}, -1, 0},
		{clock.Moment{Day: -1, Second: 35999}, -mostOffset, -1},
		{clock.Moment{Day: -1, Second: 36000}, -mostOffset, 0},
		{clock.Moment{Day: -1}, -mostOffset, -36000},
		{clock.Moment{Day: -2, Second: 86399}, -mostOffset, -36001},
		{clock.Moment{Day: lastDay, Second: lastSecond}, 0, lastTime},
		{clock.Moment{Day: lastDay, Second: lastSecond}, -1, lastTime + 1},
		{clock.Moment{Day: lastDay, Second: lastSecond + 1}, 0, lastTime + 1},
		{clock.Moment{Day: lastDay, Second: lastSecond + 1}, 1, lastTime},
		{clock.Moment{Day: lastDay, Second: 78304}, mostOffset, lastTime},
		{clock.Moment{Day: lastDay, Second: 78305}, mostOffset, lastTime + 1},
		{clock.Moment{Day: lastDay, Second: 86399}, mostOffset, lastTime + 8095},
		{clock.Moment{Day: lastDay - 1, Second: 63904}, -mostOffset, lastTime},
		{clock.Moment{Day: lastDay - 1, Second: 63905}, -mostOffset, lastTime + 1},
		{clock.Moment{Day: lastDay + 1}, mostOffset, lastTime + 8096},
	} {
		if c.want < 0 || c.want > lastTime {
			noJoin(t, c.m, c.offset, api.ErrRange)
		} else {
			isJoin(t, c.m, c.offset, c.want)
		}
	}
}

// CK1: a day that civil takes is one, though it has no time; one that it doesn't take is none.
func TestJoinDays(t *testing.T) {
	for _, offset := range offsets {
		for _, s := range []int{0, 1, 86399} {
			for _, day := range []int{mostDays, -mostDays, mostDays - 1, 1 - mostDays, lastDay + 2, -2, -3, -lastDay, -20775} {
				noJoin(t, clock.Moment{Day: day, Second: s}, offset, api.ErrRange)
			}
			// The last ones here, as so many seconds, would come round to a time in an int.
			for _, day := range []int{mostDays + 1, -mostDays - 1, 1 << 47, -1 << 47, math.MaxInt, math.MinInt, 213503982334602, -213503982334601, 1 << 57, 3 << 57} {
				noJoin(t, clock.Moment{Day: day, Second: s}, offset, api.ErrArg)
			}
		}
	}
}

// CK1: numbers that can't be come ahead of a time that there is not.
func TestJoinErrorsInOrder(t *testing.T) {
	for _, day := range []int{-1, -20775, -mostDays, -mostDays - 1, lastDay + 5, mostDays, mostDays + 1, math.MinInt, math.MaxInt} {
		for _, s := range []int{-1, 86400, math.MinInt, math.MaxInt} {
			for _, offset := range slices.Concat(wrongOffsets, offsets) {
				noJoin(t, clock.Moment{Day: day, Second: s}, offset, api.ErrArg)
			}
		}
		for _, offset := range wrongOffsets {
			noJoin(t, clock.Moment{Day: day}, offset, api.ErrArg)
		}
	}
	for _, offset := range wrongOffsets {
		noJoin(t, clock.Moment{}, offset, api.ErrArg)
		noJoin(t, clock.Moment{Day: 20775, Second: 5}, offset, api.ErrArg)
	}
}

// CK2: sums that are known.
func TestAddOfKnownNumbers(t *testing.T) {
	for _, c := range [][3]int{
		{0, 0, 0}, {0, 1, 1}, {1, 0, 1}, {5, 7, 12}, {7, -5, 2}, {86400, -86400, 0}, {1795036496, 3600, 1795040096},
		{0, -1, 0}, {5, -5, 0}, {5, -6, 0}, {5, math.MinInt, 0}, {0, math.MinInt, 0}, {lastTime, math.MinInt, 0}, {lastTime, -lastTime, 0}, {lastTime, -lastTime - 1, 0}, {lastTime, 1 - lastTime, 1},
		{lastTime, 0, lastTime}, {lastTime, 1, lastTime}, {lastTime, -1, lastTime - 1}, {lastTime - 1, 1, lastTime}, {lastTime - 1, 2, lastTime}, {1, lastTime, lastTime}, {0, lastTime, lastTime}, {0, lastTime + 1, lastTime}, {0, lastTime - 1, lastTime - 1},
		{0, math.MaxInt, lastTime}, {1, math.MaxInt, lastTime}, {lastTime, math.MaxInt, lastTime}, {lastTime, lastTime, lastTime},
		// A t that is no time counts as the one that lies nearest.
		{-1, 0, 0}, {-1, 1, 1}, {-5, 7, 7}, {-5, -7, 0}, {math.MinInt, 0, 0}, {math.MinInt, 9, 9}, {math.MinInt, -1, 0}, {math.MinInt, math.MinInt, 0}, {math.MinInt, math.MaxInt, lastTime}, {-lastTime, lastTime, lastTime}, {-1, lastTime, lastTime},
		{lastTime + 1, 0, lastTime}, {lastTime + 1, -1, lastTime - 1}, {lastTime + 5, -7, lastTime - 7}, {math.MaxInt, 0, lastTime}, {math.MaxInt, 9, lastTime}, {math.MaxInt, -9, lastTime - 9}, {math.MaxInt, math.MaxInt, lastTime}, {math.MaxInt, math.MinInt, 0}, {math.MaxInt, -lastTime, 0}, {math.MaxInt, 1 - lastTime, 1},
	} {
		if got := clock.Add(c[0], c[1]); got != c[2] {
			t.Errorf("Add(%d, %d): %d, not %d", c[0], c[1], got, c[2])
		}
	}
}

// near is a number as a time, of whatever size it is.
func near(n *big.Int) *big.Int {
	last := big.NewInt(lastTime)
	switch {
	case n.Sign() < 0:
		return new(big.Int)
	case n.Cmp(last) > 0:
		return last
	default:
		return n
	}
}

// isAdd holds a sum against the one of numbers without bounds.
func isAdd(t *testing.T, at, by int) {
	t.Helper()
	sum := new(big.Int).Add(near(big.NewInt(int64(at))), big.NewInt(int64(by)))
	if got, want := clock.Add(at, by), int(near(sum).Int64()); got != want {
		t.Errorf("Add(%d, %d): %d, not %d", at, by, got, want)
	}
}

// CK2: all edges with one another, and numbers of each size.
func TestAddIsTheSum(t *testing.T) {
	var edges []int
	for _, n := range []int{math.MinInt, -lastTime, -1 << 61, -api.Day, 0, api.Day, 1 << 61, lastTime, math.MaxInt} {
		for by := -3; by <= 3; by++ {
			edges = append(edges, n+by)
		}
	}
	for _, at := range edges {
		for _, by := range edges {
			isAdd(t, at, by)
		}
	}
	r := rand.New(rand.NewSource(2))
	for range 200000 {
		isAdd(t, int(r.Uint64())>>r.Intn(64), int(r.Uint64())>>r.Intn(64))
	}
}

// CK3: times that are known have their texts.
func TestKnownStamps(t *testing.T) {
	for _, c := range known {
		if s, err := clock.Stamp(c.t, c.offset); s != c.stamp || err != nil {
			t.Errorf("Stamp(%d, %d): %q, %v, not %q", c.t, c.offset, s, err, c.stamp)
		}
	}
}

// CK3: a text tells the moment's date and second, at each size of times.
func TestStampTellsTheMoment(t *testing.T) {
	r := rand.New(rand.NewSource(3))
	for range 100000 {
		at, offset := r.Intn(lastTime+1)>>r.Intn(62), r.Intn(2*mostOffset+1)-mostOffset
		m, err := clock.Split(at, offset)
		if err != nil {
			t.Fatalf("Split(%d, %d): %v", at, offset, err)
		}
		d, err := civil.Of(m.Day)
		if err != nil {
			t.Fatalf("Of(%d): %v", m.Day, err)
		}
		want := fmt.Sprintf("%d-%02d-%02d %s", d.Y, d.M, d.D, whole(m.Second))
		if s, err := clock.Stamp(at, offset); s != want || err != nil {
			t.Fatalf("Stamp(%d, %d): %q, %v, not %q", at, offset, s, err, want)
		}
	}
}

// CK3: no text where there is no moment.
func TestStampOfWrongNumbers(t *testing.T) {
	wrongTime(func(at, offset int) {
		if s, err := clock.Stamp(at, offset); s != "" || !holds(err, api.ErrArg) {
			t.Errorf("Stamp(%d, %d): %q, %v", at, offset, s, err)
		}
	})
}

// CK3: seconds that are known have their texts.
func TestKnownHours(t *testing.T) {
	for _, c := range []struct {
		s    int
		text string
	}{
		{0, "00:00"}, {1, "00:00:01"}, {9, "00:00:09"}, {10, "00:00:10"}, {59, "00:00:59"}, {60, "00:01"}, {61, "00:01:01"}, {599, "00:09:59"}, {600, "00:10"},
		{3540, "00:59"}, {3599, "00:59:59"}, {3600, "01:00"}, {3601, "01:00:01"}, {35999, "09:59:59"}, {36000, "10:00"}, {61200, "17:00"}, {86340, "23:59"}, {86399, "23:59:59"}, {86400, "24:00"},
	} {
		if s, err := clock.Hours(c.s); s != c.text || err != nil {
			t.Errorf("Hours(%d): %q, %v, not %q", c.s, s, err, c.text)
		}
		if n, err := clock.Parse(c.text); n != c.s || err != nil {
			t.Errorf("Parse(%q): %d, %v, not %d", c.text, n, err, c.s)
		}
	}
}

// CK3: a second that is none has no text.
func TestHoursOfWrongNumbers(t *testing.T) {
	for _, n := range []int{-1, -2, -60, -3600, -86400, 86401, 86402, 86460, 90000, 100 * 3600, lastTime, -lastTime, math.MaxInt, math.MinInt} {
		if s, err := clock.Hours(n); s != "" || !holds(err, api.ErrArg) {
			t.Errorf("Hours(%d): %q, %v", n, s, err)
		}
	}
}

// all are the numbers of all texts that there are, of both lengths.
func all() map[string]int {
	texts := map[string]int{}
	for s := 0; s <= 86400; s++ {
		texts[whole(s)] = s
		if s%60 == 0 {
			texts[whole(s)[:5]] = s
		}
	}
	return texts
}

// isParse holds what is read against all texts that there are.
func isParse(t *testing.T, texts map[string]int, s string) {
	t.Helper()
	want, ok := texts[s]
	if !ok {
		noForm(t, s)
	} else if n, err := clock.Parse(s); n != want || err != nil {
		t.Errorf("Parse(%q): %d, %v, not %d", s, n, err, want)
	}
}

// CK3: whatever two digits stand in each place: a text is read just where it is one of a second's.
func TestParseOfAllDigits(t *testing.T) {
	texts := all()
	for h := range 100 {
		for m := range 100 {
			isParse(t, texts, fmt.Sprintf("%02d:%02d", h, m))
			for s := range 100 {
				isParse(t, texts, fmt.Sprintf("%02d:%02d:%02d", h, m, s))
			}
		}
	}
}

// CK3: whatever byte stands in a place, is put in, or is left out.
func TestParseOfAllBytes(t *testing.T) {
	texts := all()
	for _, s := range []string{"00:00", "09:59", "17:30", "23:59", "24:00", "00:00:00", "01:02:03", "12:34:56", "23:59:59", "24:00:00"} {
		for i := range len(s) {
			isParse(t, texts, s[:i]+s[i+1:])
			for b := range 256 {
				isParse(t, texts, s[:i]+string([]byte{byte(b)})+s[i+1:])
				isParse(t, texts, s[:i]+string([]byte{byte(b)})+s[i:])
				isParse(t, texts, s+string([]byte{byte(b)}))
			}
		}
	}
}

// CK3: texts that are none, for one reason or for more.
func TestParseOfWrongTexts(t *testing.T) {
	for _, s := range []string{
		"", ":", "::", "0", "00", "0000", "000000", "00000000", "00:", ":00", "00:0", "0:00", "1:2", "1:2:3", "1:02:03", "01:2:03", "01:02:3",
		"24:00:01", "24:01", "24:01:00", "24:59:59", "25:00", "25:00:00", "99:59", "99:99:99", "00:60", "00:60:00", "00:00:60", "00:99", "23:59:60", "23:60:00",
		"-1:00", "+1:00", "00:-1", "00:+1", "-0:00", "00:00:-0", "00:00:+0", " 1:00", "1 :00", " 01:00", "01:00 ", "01:00\n", "01:00:00\x00", "\x0001:00",
		"01-00", "01.00", "01;00", "01:00.00", "01:00 00", "01 00 00", "0100", "010000", ":::::", "::::::::", "01::00", "01:::00", "01:00::0", "01:00:", "01:00::", ":01:00", "1:000:00", "001:00", "01:000", "001:0:00", "01:00:00:00", "01:00:00:", "0a:00", "0A:00", "0x:00", "ab:cd", "aa:bb:cc",
		"hh:mm", "hh:mm:ss", "\u0661\u0660:\u0660\u0660", "\uff11\uff12:00", "\u0661:00", "\u0661:00:\u0660", "1\u00b2:00", "01\uff1a00", "\xff\xff:\xff\xff", "01:00Z", "1e:00", "1_:00",
		strings.Repeat("0", api.MaxText), strings.Repeat(":", api.MaxText), "01:00" + strings.Repeat(":00", api.MaxText), strings.Repeat("00", api.MaxText) + ":00:00",
	} {
		noForm(t, s)
	}
}

// CK4: Join of Split is the time, at all offsets.
func TestJoinOfSplit(t *testing.T) {
	back := func(at, offset int) {
		m, err := clock.Split(at, offset)
		if err != nil {
			t.Fatalf("Split(%d, %d): %v", at, offset, err)
		}
		if m.Second < 0 || m.Second >= 86400 {
			t.Errorf("Split(%d, %d): %v", at, offset, m)
		}
		isJoin(t, m, offset, at)
	}
	for _, at := range times {
		for _, offset := range offsets {
			back(at, offset)
		}
	}
	for offset := -mostOffset; offset <= mostOffset && !t.Failed(); offset++ {
		back(0, offset)
		back(lastTime, offset)
		back(1795036496, offset)
	}
	r := rand.New(rand.NewSource(4))
	for range 200000 {
		back(r.Intn(lastTime+1)>>r.Intn(62), r.Intn(2*mostOffset+1)-mostOffset)
	}
}

// CK4: Parse of Hours is the second, and so is that of its text with the seconds; Hours is short just where these are 00.
func TestParseOfHours(t *testing.T) {
	for s := 0; s <= 86400; s++ {
		want := whole(s)
		if n, err := clock.Parse(want); n != s || err != nil {
			t.Errorf("Parse(%q): %d, %v", want, n, err)
		}
		if s%60 == 0 {
			want = want[:5]
		}
		got, err := clock.Hours(s)
		if got != want || err != nil {
			t.Errorf("Hours(%d): %q, %v", s, got, err)
		}
		if n, err := clock.Parse(got); n != s || err != nil {
			t.Errorf("Parse(%q): %d, %v", got, n, err)
		}
	}
}
