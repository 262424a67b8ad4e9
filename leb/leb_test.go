package leb_test

import (
	"bytes"
	"errors"
	"math"
	"slices"
	"strings"
	"testing"

	"belvedere/api"
	"belvedere/leb"
)

// putByDivision is a number's bytes as LB1 tells them: what is left over by 128, again and again.
func putByDivision(v uint64) []byte {
	if v < 128 {
		return []byte{byte(v)}
	}
	return append([]byte{byte(v%128) + 128}, putByDivision(v/128)...)
}

// numbers are such as lie around each power of two, and some that look like no pattern.
func numbers() []uint64 {
	l := []uint64{300, math.MaxUint64, math.MaxUint64 - 1}
	for bit := range 64 {
		power := uint64(1) << bit
		l = append(l, power-1, power, power+1, power*0x9e3779b97f4a7c15, 0x9e3779b97f4a7c15>>bit)
	}
	return l
}

// signed are numbers above and below 0, the least and the greatest among them.
func signed() []int64 {
	l := []int64{0, 1, -1, math.MaxInt64, math.MinInt64, math.MinInt64 + 1, api.MaxTime, -api.MaxTime}
	for _, v := range numbers() {
		l = append(l, int64(v), -int64(v))
	}
	return l
}

// texts are of many lengths, around those too where the length asks for a byte more; bytes of all kinds are in them.
func texts() []string {
	l := []string{"", "a", "\x00", "\xff", "\xc3\x28", "a b\n", "häuser"}
	for _, n := range []int{2, 9, 10, 11, 126, 127, 128, 129, 300, 16383, 16384, 16385, api.MaxText} {
		var b strings.Builder
		for i := range n {
			b.WriteByte(byte(i * 37))
		}
		l = append(l, b.String())
	}
	return l
}

// others are bytes as they may stand ahead of a number, or behind it.
func others() []string {
	return []string{"", "\x00", "\x01", "\x7f", "\x80", "\xff", "\x80\x00", "abc", strings.Repeat("\xff", 12), strings.Repeat("\x00", 12)}
}

// holds tells whether an error is just that number.
func holds(err error, want api.Errno) bool {
	var got api.Errno
	return errors.As(err, &got) && got == want
}

// taken tells whether a call went well and left just those bytes.
func taken(rest []byte, err error, want string) bool {
	return err == nil && string(rest) == want
}

// greatest is the text whose bytes are the greatest number's, but for the last one.
var greatest = strings.Repeat("\xff", 9)

// LB1: numbers whose bytes are known, of each length.
func TestPutOfKnownNumbers(t *testing.T) {
	for _, c := range []struct {
		v    uint64
		want string
	}{
		{0, "\x00"},
		{1, "\x01"},
		{127, "\x7f"},
		{128, "\x80\x01"},
		{129, "\x81\x01"},
		{255, "\xff\x01"},
		{256, "\x80\x02"},
		{300, "\xac\x02"},
		{1<<14 - 1, "\xff\x7f"},
		{1 << 14, "\x80\x80\x01"},
		{624485, "\xe5\x8e\x26"},
		{1<<21 - 1, "\xff\xff\x7f"},
		{1 << 21, "\x80\x80\x80\x01"},
		{1 << 28, "\x80\x80\x80\x80\x01"},
		{1 << 35, "\x80\x80\x80\x80\x80\x01"},
		{1 << 42, "\x80\x80\x80\x80\x80\x80\x01"},
		{1 << 49, "\x80\x80\x80\x80\x80\x80\x80\x01"},
		{1 << 56, "\x80\x80\x80\x80\x80\x80\x80\x80\x01"},
		{1<<63 - 1, "\xff\xff\xff\xff\xff\xff\xff\xff\x7f"},
		{1 << 63, "\x80\x80\x80\x80\x80\x80\x80\x80\x80\x01"},
		{math.MaxUint64, greatest + "\x01"},
	} {
		if got := leb.Put(nil, c.v); string(got) != c.want {
			t.Errorf("Put(nil, %d): %x, not %x", c.v, got, c.want)
		}
		got, rest, err := leb.Take([]byte(c.want))
		if got != c.v || !taken(rest, err, "") {
			t.Errorf("Take(%x): %d, %x, %v, not %d", c.want, got, rest, err, c.v)
		}
	}
}

// LB1: a number's bytes are what division tells, behind whatever is there.
func TestPutIsDivision(t *testing.T) {
	for v := range uint64(1 << 15) {
		if got, want := leb.Put(nil, v), putByDivision(v); !bytes.Equal(got, want) {
			t.Fatalf("Put(nil, %d): %x, not %x", v, got, want)
		}
	}
	for _, v := range numbers() {
		for _, b := range others() {
			want := b + string(putByDivision(v))
			if got := leb.Put([]byte(b), v); string(got) != want {
				t.Errorf("Put(%x, %d): %x, not %x", b, v, got, want)
			}
		}
	}
}

// LB1, LB3: a number is taken off whatever is behind it, and that is left.
func TestTakeLeavesWhatIsBehind(t *testing.T) {
	for _, v := range numbers() {
		for _, behind := range others() {
			b := append(putByDivision(v), behind...)
			got, rest, err := leb.Take(b)
			if got != v || !taken(rest, err, behind) {
				t.Errorf("Take(%x): %d, %x, %v, not %d, %x", b, got, rest, err, v, behind)
			}
		}
	}
}

// LB1: with one of a number's last bytes missing, it ends too soon.
func TestTakeCutOff(t *testing.T) {
	for _, v := range numbers() {
		b := putByDivision(v)
		for n := range b {
			failsToTake(t, string(b[:n]), api.ErrEnd)
		}
	}
}

// failsToTake asks for an error of Take and TakeInt, and of TakeText where most lets pass any length.
func failsToTake(t *testing.T, b string, want api.Errno) {
	t.Helper()
	if v, rest, err := leb.Take([]byte(b)); !holds(err, want) || v != 0 || len(rest) != 0 {
		t.Errorf("Take(%x): %d, %x, %v, not %v", b, v, rest, err, want)
	}
	if v, rest, err := leb.TakeInt([]byte(b)); !holds(err, want) || v != 0 || len(rest) != 0 {
		t.Errorf("TakeInt(%x): %d, %x, %v, not %v", b, v, rest, err, want)
	}
	for _, most := range []int{0, 1, math.MaxInt} {
		if s, rest, err := leb.TakeText([]byte(b), most); !holds(err, want) || s != "" || len(rest) != 0 {
			t.Errorf("TakeText(%x, %d): %q, %x, %v, not %v", b, most, s, rest, err, want)
		}
	}
}

// LB1, LB2: fewer than ten bytes, and none below 128.
func TestTakeNoLastByte(t *testing.T) {
	if _, _, err := leb.Take(nil); !holds(err, api.ErrEnd) {
		t.Errorf("Take(nil): %v", err)
	}
	for n := range 10 {
		failsToTake(t, strings.Repeat("\x80", n), api.ErrEnd)
		failsToTake(t, strings.Repeat("\xff", n), api.ErrEnd)
	}
}

// LB1, LB2: none of the first ten bytes below 128, whatever comes then.
func TestTakeNoLastByteAmongTen(t *testing.T) {
	for _, b := range []string{strings.Repeat("\x80", 10), strings.Repeat("\x81", 10), strings.Repeat("\xff", 10)} {
		for _, behind := range others() {
			failsToTake(t, b+behind, api.ErrForm)
		}
	}
}

// LB1, LB2: more bytes than a number asks for, of each length.
func TestTakeMoreBytesThanAskedFor(t *testing.T) {
	for _, behind := range others() {
		for n := 1; n <= 9; n++ {
			failsToTake(t, strings.Repeat("\x80", n)+"\x00"+behind, api.ErrForm)
			failsToTake(t, strings.Repeat("\xff", n)+"\x00"+behind, api.ErrForm)
			failsToTake(t, "\x81"+strings.Repeat("\x80", n-1)+"\x00"+behind, api.ErrForm)
		}
	}
}

// LB1, LB2: of ten bytes, the last one can be 1 alone.
func TestTakeBeyond64Bits(t *testing.T) {
	for _, b := range []string{greatest, strings.Repeat("\x80", 9)} {
		for last := range byte(128) {
			if last != 1 {
				failsToTake(t, b+string([]byte{last}), api.ErrForm)
				failsToTake(t, b+string([]byte{last, 0}), api.ErrForm)
			}
		}
	}
}

// LB1: of all two bytes, just those are taken that are a number's, or have one ahead.
func TestTakeOfAllTwoBytes(t *testing.T) {
	for x := range 256 {
		for y := range 256 {
			b := string([]byte{byte(x), byte(y)})
			v, rest, err := leb.Take([]byte(b))
			switch {
			case x < 128:
				if v != uint64(x) || !taken(rest, err, b[1:]) {
					t.Errorf("Take(%x): %d, %x, %v", b, v, rest, err)
				}
			case y >= 128:
				failsToTake(t, b, api.ErrEnd)
			case y == 0:
				failsToTake(t, b, api.ErrForm)
			default:
				if want := uint64(x-128) + 128*uint64(y); v != want || !taken(rest, err, "") {
					t.Errorf("Take(%x): %d, %x, %v, not %d", b, v, rest, err, want)
				}
			}
		}
	}
}

// LB2: numbers with a sign whose bytes are known.
func TestPutIntOfKnownNumbers(t *testing.T) {
	for _, c := range []struct {
		v    int64
		want string
	}{
		{0, "\x00"},
		{-1, "\x01"},
		{1, "\x02"},
		{-2, "\x03"},
		{2, "\x04"},
		{63, "\x7e"},
		{-64, "\x7f"},
		{64, "\x80\x01"},
		{-65, "\x81\x01"},
		{150, "\xac\x02"},
		{math.MaxInt64, "\xfe" + greatest[1:] + "\x01"},
		{math.MinInt64, greatest + "\x01"},
	} {
		if got := leb.PutInt(nil, c.v); string(got) != c.want {
			t.Errorf("PutInt(nil, %d): %x, not %x", c.v, got, c.want)
		}
		got, rest, err := leb.TakeInt([]byte(c.want))
		if got != c.v || !taken(rest, err, "") {
			t.Errorf("TakeInt(%x): %d, %x, %v, not %d", c.want, got, rest, err, c.v)
		}
	}
}

// twice is what LB2 lays for a number with a sign; -v is reckoned from -(v+1), which there is of the least number too.
func twice(v int64) uint64 {
	if v >= 0 {
		return uint64(v) + uint64(v)
	}
	minus := uint64(-(v + 1)) + 1
	return minus - 1 + minus
}

// LB2, LB3: a number with a sign is laid behind whatever is there, and taken off whatever is behind.
func TestIntsAmongOthers(t *testing.T) {
	for _, v := range signed() {
		for _, other := range others() {
			want := other + string(putByDivision(twice(v)))
			if got := leb.PutInt([]byte(other), v); string(got) != want {
				t.Errorf("PutInt(%x, %d): %x, not %x", other, v, got, want)
			}
			b := append(putByDivision(twice(v)), other...)
			got, rest, err := leb.TakeInt(b)
			if got != v || !taken(rest, err, other) {
				t.Errorf("TakeInt(%x): %d, %x, %v, not %d, %x", b, got, rest, err, v, other)
			}
		}
	}
}

// LB2: texts whose bytes are known.
func TestPutTextOfKnownTexts(t *testing.T) {
	long := strings.Repeat("x", 300)
	for _, c := range []struct{ s, want string }{
		{"", "\x00"},
		{"a", "\x01a"},
		{"\x00\xff", "\x02\x00\xff"},
		{"ä", "\x02\xc3\xa4"},
		{long[:127], "\x7f" + long[:127]},
		{long[:128], "\x80\x01" + long[:128]},
		{long, "\xac\x02" + long},
	} {
		if got := leb.PutText(nil, c.s); string(got) != c.want {
			t.Errorf("PutText(nil, %q): %q, not %q", c.s, got, c.want)
		}
		got, rest, err := leb.TakeText([]byte(c.want), len(c.s))
		if got != c.s || !taken(rest, err, "") {
			t.Errorf("TakeText(%q): %q, %x, %v", c.want, got, rest, err)
		}
	}
}

// LB2, LB3: a text is laid behind whatever is there, and taken off whatever is behind, if it may be so long.
func TestTextsAmongOthers(t *testing.T) {
	for _, s := range texts() {
		text := string(putByDivision(uint64(len(s)))) + s
		for _, other := range others() {
			if got := leb.PutText([]byte(other), s); string(got) != other+text {
				t.Errorf("PutText(%x, %d bytes): %d bytes, not %d", other, len(s), len(got), len(other)+len(text))
			}
			for _, most := range []int{len(s), len(s) + 1, math.MaxInt} {
				got, rest, err := leb.TakeText([]byte(text+other), most)
				if got != s || !taken(rest, err, other) {
					t.Errorf("TakeText of %d bytes and %x, at most %d: %d bytes, %x, %v", len(s), other, most, len(got), rest, err)
				}
			}
		}
	}
}

// failsToTakeText asks for an error of TakeText.
func failsToTakeText(t *testing.T, b string, most int, want api.Errno) {
	t.Helper()
	if s, rest, err := leb.TakeText([]byte(b), most); !holds(err, want) || s != "" || len(rest) != 0 {
		t.Errorf("TakeText(%.20x, %d): %q, %x, %v, not %v", b, most, s, rest, err, want)
	}
}

// LB2: a most below 0 is told ahead of all else.
func TestTakeTextMostBelow0(t *testing.T) {
	for _, most := range []int{-1, -2, -128, math.MinInt} {
		for _, b := range []string{"", "\x00", "\x01a", "\x02a", "\x80", "\x80\x00", strings.Repeat("\xff", 10), greatest + "\x01"} {
			failsToTakeText(t, b, most, api.ErrArg)
		}
	}
}

// LB2: longer than it may be, whether or not so many bytes are there.
func TestTakeTextTooLong(t *testing.T) {
	for _, s := range texts() {
		if s == "" {
			continue
		}
		text := string(putByDivision(uint64(len(s)))) + s
		for _, most := range []int{0, len(s) / 2, len(s) - 1} {
			failsToTakeText(t, text, most, api.ErrLong)
			failsToTakeText(t, text+"behind", most, api.ErrLong)
			failsToTakeText(t, text[:len(text)-1], most, api.ErrLong)
		}
	}
}

// LB2: not so many bytes as the length says, wherever they end.
func TestTakeTextTooFewBytes(t *testing.T) {
	for _, s := range texts() {
		text := string(putByDivision(uint64(len(s)))) + s
		digits := len(text) - len(s)
		for _, n := range []int{digits, digits + len(s)/2, len(text) - 1} {
			if s != "" {
				failsToTakeText(t, text[:n], len(s), api.ErrEnd)
				failsToTakeText(t, text[:n], math.MaxInt, api.ErrEnd)
			}
		}
	}
}

// LB2: lengths far beyond the bytes that are there, and beyond what an int holds.
func TestTakeTextLengthFarBeyond(t *testing.T) {
	for _, long := range []uint64{api.MaxText, 1 << 31, 1 << 32, 1<<62 + 1, math.MaxInt64 - 1, math.MaxInt64, 1 << 63, 1<<63 + 1, math.MaxUint64 - 1, math.MaxUint64} {
		for _, behind := range others() {
			b := string(putByDivision(long)) + behind
			failsToTakeText(t, b, 0, api.ErrLong)
			failsToTakeText(t, b, len(behind), api.ErrLong)
			failsToTakeText(t, b, api.MaxText-1, api.ErrLong)
			if long > math.MaxInt {
				failsToTakeText(t, b, math.MaxInt, api.ErrLong)
			} else {
				failsToTakeText(t, b, int(long), api.ErrEnd)
				failsToTakeText(t, b, math.MaxInt, api.ErrEnd)
			}
		}
	}
}

// LB3: all that was put, one behind the other, is taken in its order, and what is behind all of it is left.
func TestPutIsTakenInOrder(t *testing.T) {
	l, words := signed(), texts()[:9]
	for _, behind := range others() {
		var b []byte
		for i, v := range l {
			b = leb.Put(b, uint64(v))
			b = leb.PutInt(b, v)
			b = leb.PutText(b, words[i%len(words)])
		}
		b = append(b, behind...)
		for i, v := range l {
			number, rest, err := leb.Take(b)
			if err != nil || number != uint64(v) {
				t.Fatalf("number %d: %d, %v, not %d", i, number, err, uint64(v))
			}
			whole, rest, err := leb.TakeInt(rest)
			if err != nil || whole != v {
				t.Fatalf("number %d with a sign: %d, %v, not %d", i, whole, err, v)
			}
			text, rest, err := leb.TakeText(rest, api.MaxText)
			if want := words[i%len(words)]; err != nil || text != want {
				t.Fatalf("text %d: %q, %v, not %q", i, text, err, want)
			}
			b = rest
		}
		if string(b) != behind {
			t.Errorf("left behind all: %x, not %x", b, behind)
		}
	}
}

// answersOf is what the calls answer that stand on bytes: behind the bytes ahead something is put, off the text something is taken.
func answersOf(t *testing.T, ahead, text []byte) [][]byte {
	_, rest, err := leb.Take(text)
	_, restInt, errInt := leb.TakeInt(text)
	_, restText, errText := leb.TakeText(text, math.MaxInt)
	if err != nil || errInt != nil || errText != nil {
		t.Fatalf("taken off %x: %v, %v, %v", text, err, errInt, errText)
	}
	return [][]byte{leb.Put(ahead, 300), leb.PutInt(ahead, -300), leb.PutText(ahead, "text"), rest, restInt, restText}
}

// LB1, LB2: what is handed in is not changed, its spare room neither, and no answer shares it or another's.
func TestHandedInIsNotChanged(t *testing.T) {
	for n := range 40 {
		room := bytes.Repeat([]byte{0x55}, 200)
		text := append(room[:0], leb.PutText(nil, strings.Repeat("y", n))...)
		text = append(text, "behind"...)
		kept := slices.Clone(room)
		answers := append(answersOf(t, room[:n], text), answersOf(t, room[:n], text)...)
		if !bytes.Equal(room, kept) {
			t.Errorf("%d bytes: what was handed in was changed", n)
		}
		for i, b := range answers {
			for j := range b[:cap(b)] {
				b[:cap(b)][j] = byte(0xa0 + i)
			}
		}
		if !bytes.Equal(room, kept) {
			t.Errorf("%d bytes: an answer shares memory with what was handed in", n)
		}
		for i, b := range answers {
			if bytes.Count(b[:cap(b)], []byte{byte(0xa0 + i)}) != cap(b) {
				t.Errorf("%d bytes: two answers share memory", n)
			}
		}
	}
}

// LB2: a text that was taken stays when the bytes that it was taken off are changed.
func TestTextTakenStays(t *testing.T) {
	b := leb.PutText(nil, "a text")
	s, _, err := leb.TakeText(b, 6)
	clear(b)
	if err != nil || s != "a text" {
		t.Errorf("TakeText: %q, %v", s, err)
	}
}

// LB1, LB2, LB3: whatever bytes are there, what is taken off them and put again is what they begin with.
func FuzzTake(f *testing.F) {
	for _, v := range numbers() {
		f.Add(append(putByDivision(v), "behind"...), 6)
	}
	f.Add([]byte(strings.Repeat("\x80", 10)), -1)
	f.Fuzz(func(t *testing.T, b []byte, most int) {
		if v, rest, err := leb.Take(b); err == nil && !bytes.Equal(append(leb.Put(nil, v), rest...), b) {
			t.Errorf("Take(%x): %d, %x", b, v, rest)
		}
		if v, rest, err := leb.TakeInt(b); err == nil && !bytes.Equal(append(leb.PutInt(nil, v), rest...), b) {
			t.Errorf("TakeInt(%x): %d, %x", b, v, rest)
		}
		if s, rest, err := leb.TakeText(b, most); err == nil && (len(s) > most || !bytes.Equal(append(leb.PutText(nil, s), rest...), b)) {
			t.Errorf("TakeText(%x, %d): %q, %x", b, most, s, rest)
		}
	})
}
