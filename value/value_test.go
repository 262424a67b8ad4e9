package value_test

import (
	"errors"
	"fmt"
	"math"
	"math/big"
	"math/rand"
	"slices"
	"strconv"
	"strings"
	"testing"

	"belvedere/api"
	"belvedere/value"
)

const (
	mostSeconds  = 10_000_000
	smallLetters = "abcdefghijklmnopqrstuvwxyz"
	// sixteen are as many letters as there may be, without an n, and in no order.
	sixteen = "zaybxcwdveuftgsh"
)

// noBlanks are such as some take for blanks.
var noBlanks = []string{"\r", "\n", "\v", "\f", "\x00", "\xa0", "\x85", "\u00a0", "\u0085", "\u1680", "\u2003", "\u2028", "\u200b", "\u3000", "\ufeff", "\ufffd", "\xe3\x80"}

// blankEnds are blanks of both kinds, and none.
var blankEnds = []string{"", " ", "\t", "  ", "\t ", " \t\t "}

// noLetters can't be letters, whatever they are for.
var noLetters = []string{"A", "Z", "dUr", "0", "d1", " ", "d ", " d", "d,u", ",", "\t", "-", "_", "`", "{", "é", "ñ", "d\x80", "\xff", "\x00", "a\u0301", "ａ", "\ufffd", "dd", "dud", "uduu", "nn", "n.n", smallLetters, smallLetters[:17], sixteen + "n", sixteen + "z", strings.Repeat("a", 16), strings.Repeat("a", 1000)}

// unitBytes are what units are told by, and seconds in each.
var unitBytes = []struct {
	text string
	each int
}{{"", 1}, {"s", 1}, {"m", 60}, {"h", 3600}, {"d", 86400}}

// holds tells whether an error is just that number; of 0, whether there is none.
func holds(err error, want api.Errno) bool {
	if want == 0 {
		return err == nil
	}
	var got api.Errno
	return errors.As(err, &got) && got == want
}

// isInt asks for a text's number.
func isInt(t *testing.T, s string, low, high, want int) {
	t.Helper()
	if got, err := value.Int(s, low, high); got != want || err != nil {
		t.Errorf("Int(%q, %d, %d): %d, %v, not %d", s, low, high, got, err, want)
	}
}

// noInt asks for an error of Int, and for nothing beside it.
func noInt(t *testing.T, s string, low, high int, want api.Errno) {
	t.Helper()
	if got, err := value.Int(s, low, high); got != 0 || !holds(err, want) {
		t.Errorf("Int(%.60q, %d, %d): %d, %v, not error %d", s, low, high, got, err, int(want))
	}
}

// isNoNumber asks for ErrForm, whatever the bounds are.
func isNoNumber(t *testing.T, s string) {
	t.Helper()
	noInt(t, s, math.MinInt, math.MaxInt, api.ErrForm)
	noInt(t, s, 0, 0, api.ErrForm)
	noInt(t, s, 1, -1, api.ErrForm)
}

// isSeconds asks for a text's seconds.
func isSeconds(t *testing.T, s string, want int) {
	t.Helper()
	if got, err := value.Seconds(s); got != want || err != nil {
		t.Errorf("Seconds(%q): %d, %v, not %d", s, got, err, want)
	}
}

// noSeconds asks for an error of Seconds, and for nothing beside it.
func noSeconds(t *testing.T, s string, want api.Errno) {
	t.Helper()
	if got, err := value.Seconds(s); got != 0 || !holds(err, want) {
		t.Errorf("Seconds(%.60q): %d, %v, not error %d", s, got, err, int(want))
	}
}

// isList asks for a text's parts.
func isList(t *testing.T, s string, want ...string) {
	t.Helper()
	if got, err := value.List(s); !slices.Equal(got, want) || err != nil {
		t.Errorf("List(%.60q): %.60q, %v, not %.60q", s, got, err, want)
	}
}

// noList asks for an error of List, and for nothing beside it.
func noList(t *testing.T, s string, want api.Errno) {
	t.Helper()
	if got, err := value.List(s); len(got) != 0 || !holds(err, want) {
		t.Errorf("List(%.60q), of %d bytes: %d parts, %v, not error %d", s, len(s), len(got), err, int(want))
	}
}

// isJoined asks for parts' text.
func isJoined(t *testing.T, l []string, want string) {
	t.Helper()
	if got, err := value.Joined(l); got != want || err != nil {
		t.Errorf("Joined(%.60q): %.60q, %v, not %.60q", l, got, err, want)
	}
}

// noJoined asks for an error of Joined, and for nothing beside it.
func noJoined(t *testing.T, l []string, want api.Errno) {
	t.Helper()
	if got, err := value.Joined(l); got != "" || !holds(err, want) {
		t.Errorf("Joined(%.60q), of %d parts: %.60q, %v, not error %d", l, len(l), got, err, int(want))
	}
}

// isOptions asks for a text's bits.
func isOptions(t *testing.T, s, letters string, want int) {
	t.Helper()
	if got, err := value.Options(s, letters); got != want || err != nil {
		t.Errorf("Options(%q, %q): %b, %v, not %b", s, letters, got, err, want)
	}
}

// noOptions asks for an error of Options, and for nothing beside it.
func noOptions(t *testing.T, s, letters string, want api.Errno) {
	t.Helper()
	if got, err := value.Options(s, letters); got != 0 || !holds(err, want) {
		t.Errorf("Options(%.60q, %.60q): %b, %v, not error %d", s, letters, got, err, int(want))
	}
}

// isLetters asks for bits' text.
func isLetters(t *testing.T, bits int, letters, want string) {
	t.Helper()
	if got, err := value.Letters(bits, letters); got != want || err != nil {
		t.Errorf("Letters(%b, %q): %q, %v, not %q", bits, letters, got, err, want)
	}
}

// notLetters asks for ErrArg of Letters, and for nothing beside it.
func notLetters(t *testing.T, bits int, letters string) {
	t.Helper()
	if got, err := value.Letters(bits, letters); got != "" || !holds(err, api.ErrArg) {
		t.Errorf("Letters(%b, %.60q): %q, %v, not error %d", bits, letters, got, err, int(api.ErrArg))
	}
}

// number is a part of its own for each number.
func number(i int) string { return "n" + strconv.Itoa(i) }

// many are so many parts, no two the same.
func many(n int) []string {
	l := make([]string, n)
	for i := range l {
		l[i] = number(i)
	}
	return l
}

// commas are parts with commas between, whatever they are.
func commas(l ...string) string { return strings.Join(l, ",") }

// isBlank tells whether a byte is a blank.
func isBlank(b byte) bool { return b == 32 || b == 9 }

// plainTrim is a text without blanks at its ends, byte by byte.
func plainTrim(s string) string {
	for s != "" && isBlank(s[0]) {
		s = s[1:]
	}
	for s != "" && isBlank(s[len(s)-1]) {
		s = s[:len(s)-1]
	}
	return s
}

// plainInt is Int by the words alone.
func plainInt(s string, low, high int) (int, api.Errno) {
	if s == "" {
		return 0, api.ErrNeed
	}
	if len(s) > 19 {
		return 0, api.ErrForm
	}
	n := new(big.Int)
	for i := range len(s) {
		switch {
		case '0' <= s[i] && s[i] <= '9':
			n.Mul(n, big.NewInt(10)).Add(n, big.NewInt(int64(s[i]-'0')))
		case s[i] != '-' || i > 0:
			return 0, api.ErrForm
		}
	}
	if s[0] == '-' {
		n.Neg(n)
	}
	if n.String() != s {
		return 0, api.ErrForm
	}
	if !n.IsInt64() || n.Int64() < int64(low) || n.Int64() > int64(high) {
		return 0, api.ErrRange
	}
	return int(n.Int64()), 0
}

// plainSeconds is Seconds by the words alone.
func plainSeconds(s string) (int, api.Errno) {
	for _, u := range unitBytes[1:] {
		if ahead, has := strings.CutSuffix(s, u.text); has {
			n, err := plainInt(ahead, 0, mostSeconds)
			return n * u.each, err
		}
	}
	return plainInt(s, 0, mostSeconds)
}

// plainParts are what is wrong with parts that are neither none nor malformed: each is held against each.
func plainParts(l []string) api.Errno {
	for i := range l {
		for j := range i {
			if l[i] == l[j] {
				return api.ErrTwice
			}
		}
	}
	if len(l) > 4096 {
		return api.ErrLong
	}
	return 0
}

// plainList is List by the words alone.
func plainList(s string) ([]string, api.Errno) {
	if plainTrim(s) == "" {
		return nil, api.ErrNeed
	}
	l := []string{""}
	for i := range len(s) {
		if s[i] == ',' {
			l = append(l, "")
			continue
		}
		l[len(l)-1] += s[i : i+1]
	}
	for i := range l {
		if l[i] = plainTrim(l[i]); l[i] == "" {
			return nil, api.ErrForm
		}
	}
	if wrong := plainParts(l); wrong != 0 {
		return nil, wrong
	}
	return l, 0
}

// plainJoined is Joined by the words alone.
func plainJoined(l []string) (string, api.Errno) {
	if len(l) == 0 {
		return "", api.ErrNeed
	}
	s := ""
	for i, part := range l {
		if part == "" || isBlank(part[0]) || isBlank(part[len(part)-1]) || strings.IndexByte(part, ',') >= 0 {
			return "", api.ErrForm
		}
		if i > 0 {
			s += ","
		}
		s += part
	}
	if wrong := plainParts(l); wrong != 0 {
		return "", wrong
	}
	return s, 0
}

// plainAre tells whether letters are some, byte by byte.
func plainAre(letters string) bool {
	for i := range len(letters) {
		if letters[i] < 'a' || letters[i] > 'z' || strings.Count(letters, letters[i:i+1]) > 1 {
			return false
		}
	}
	return len(letters) <= 16
}

// plainOptions is Options by the words alone.
func plainOptions(s, letters string) (int, api.Errno) {
	if !plainAre(letters) {
		return 0, api.ErrArg
	}
	l, wrong := plainList(s)
	if wrong != 0 {
		return 0, wrong
	}
	bits := 0
	for _, part := range l {
		found := false
		for i := range len(letters) {
			if part == letters[i:i+1] {
				bits += int(math.Pow(2, float64(i)))
				found = true
			}
		}
		if !found && (part != "n" || len(l) > 1) {
			return 0, api.ErrForm
		}
	}
	return bits, 0
}

// plainLetters is Letters by the words alone: each bit's letter is told while some are left.
func plainLetters(bits int, letters string) (string, api.Errno) {
	if !plainAre(letters) || strings.IndexByte(letters, 'n') >= 0 || bits < 0 || bits >= int(math.Pow(2, float64(len(letters)))) {
		return "", api.ErrArg
	}
	s := ""
	for i := 0; bits > 0; i++ {
		if bits%2 == 1 {
			s += "," + letters[i:i+1]
		}
		bits /= 2
	}
	if s == "" {
		return "n", 0
	}
	return s[1:], 0
}

// VA1: an empty text is told ahead of all else, whatever the bounds are.
func TestIntNeeds(t *testing.T) {
	for _, low := range []int{math.MinInt, -1, 0, 1, math.MaxInt} {
		for _, high := range []int{math.MinInt, -1, 0, 1, math.MaxInt} {
			noInt(t, "", low, high, api.ErrNeed)
		}
	}
}

// VA1: ordinary numbers.
func TestInt(t *testing.T) {
	for n, s := range map[int]string{0: "0", 7: "7", -1: "-1", 10: "10", -10: "-10", 9: "9", -9: "-9", 42: "42", 100: "100", 1009: "1009", -90210: "-90210", 86400: "86400", 1 << 62: "4611686018427387904"} {
		isInt(t, s, math.MinInt, math.MaxInt, n)
		isInt(t, s, n, n, n)
	}
	for n := -2000; n <= 2000; n++ {
		isInt(t, strconv.Itoa(n), -2000, 2000, n)
	}
}

// VA1: what is no number.
func TestIntForms(t *testing.T) {
	for _, s := range []string{"-0", "00", "01", "-01", "-00", "000", "007", "-007", "+1", "+0", "--1", "-", "--", "+", "-+1", "+-1", "1-", "1-1", "-1-", " ", " 1", "1 ", "1 2", "\t1", "1\t", "1\n", "\r1", "- 1", "1.5", "1.", ".5", "0x1", "0b1", "1e3", "1_000", "1,000", "a", "one", "1a", "a1", "\x00", "1\x00", "é", "\xff", "１", "1１", "٣", "−1", "\u00a01", "NaN", "inf", "0-", "-a"} {
		isNoNumber(t, s)
	}
}

// VA1: each byte alone and among digits: only digits are some, and a `-` ahead.
func TestIntEveryByte(t *testing.T) {
	for x := range 256 {
		b := string([]byte{byte(x)})
		if '0' <= x && x <= '9' {
			isInt(t, b, 0, 9, x-'0')
			isInt(t, "1"+b, 10, 19, 10+x-'0')
			continue
		}
		for _, s := range []string{b, "1" + b, "1" + b + "2", b + b, "-" + b, "-1" + b, "-" + b + "1", b + "0", b + "01"} {
			isNoNumber(t, s)
		}
		if b == "-" {
			isInt(t, b+"1", -9, 9, -1)
			isInt(t, b+"12", -99, 99, -12)
			continue
		}
		isNoNumber(t, b+"1")
		isNoNumber(t, b+"12")
	}
}

// VA1: up to 19 bytes may be a number; more are none, whatever they say.
func TestIntLengths(t *testing.T) {
	for n := 1; n <= 17; n++ {
		digits := strings.Repeat("9", n)
		want := int(math.Pow(10, float64(n))) - 1
		if n > 15 {
			want, _ = strconv.Atoi(digits)
		}
		isInt(t, digits, math.MinInt, math.MaxInt, want)
		isInt(t, "-"+digits, math.MinInt, math.MaxInt, -want)
	}
	isInt(t, "999999999999999999", math.MinInt, math.MaxInt, 999999999999999999)
	isInt(t, "-99999999999999999", math.MinInt, math.MaxInt, -99999999999999999)
	isInt(t, "100000000000000000", math.MinInt, math.MaxInt, 100000000000000000)
	isInt(t, "1000000000000000000", math.MinInt, math.MaxInt, 1000000000000000000)
	isInt(t, "-999999999999999999", math.MinInt, math.MaxInt, -999999999999999999)
	isInt(t, "-100000000000000000", math.MinInt, math.MaxInt, -100000000000000000)
	for _, s := range []string{"10000000000000000000", "-1000000000000000000", "-9223372036854775807", "-9223372036854775808", "-9223372036854775809", "18446744073709551615", "99999999999999999999", "100000000000000000000", "-10000000000000000000", "-99999999999999999999", "00000000000000000001", strings.Repeat("1", 64), "-" + strings.Repeat("1", 64), strings.Repeat("0", 20), strings.Repeat("9", 100000)} {
		isNoNumber(t, s)
	}
	for _, n := range []int{18, 19, 20, 21} {
		for _, s := range []string{strings.Repeat("0", n), "0" + strings.Repeat("1", n-1), "-0" + strings.Repeat("1", n-2), strings.Repeat("1", n-1) + "x", strings.Repeat(" ", n), "+" + strings.Repeat("1", n-1), strings.Repeat("-", n)} {
			isNoNumber(t, s)
		}
	}
}

// VA1: of 19 bytes, those above the greatest number of 64 bits are beyond.
func TestIntSixtyFourBits(t *testing.T) {
	isInt(t, "9223372036854775807", math.MinInt, math.MaxInt, math.MaxInt)
	isInt(t, "9223372036854775807", math.MaxInt, math.MaxInt, math.MaxInt)
	isInt(t, "9223372036854775806", math.MinInt, math.MaxInt, math.MaxInt-1)
	noInt(t, "9223372036854775806", math.MaxInt, math.MaxInt, api.ErrRange)
	noInt(t, "9223372036854775807", math.MinInt, math.MaxInt-1, api.ErrRange)
	for _, s := range []string{"9223372036854775808", "9223372036854775809", "9223372036854775810", "9300000000000000000", "9999999999999999999"} {
		noInt(t, s, math.MinInt, math.MaxInt, api.ErrRange)
		noInt(t, s, math.MaxInt, math.MaxInt, api.ErrRange)
		noInt(t, s, math.MinInt, math.MinInt, api.ErrRange)
		noInt(t, s, 1, 0, api.ErrRange)
	}
}

// VA1: both bounds may be themselves; what is one beyond may not.
func TestIntBounds(t *testing.T) {
	for _, low := range []int{-100, -11, -10, -1, 0, 1, 9, 10, 99} {
		for _, wide := range []int{0, 1, 2, 10, 150} {
			high := low + wide
			isInt(t, strconv.Itoa(low), low, high, low)
			isInt(t, strconv.Itoa(high), low, high, high)
			noInt(t, strconv.Itoa(low-1), low, high, api.ErrRange)
			noInt(t, strconv.Itoa(high+1), low, high, api.ErrRange)
		}
		for _, n := range []int{low - 1, low, low + 1, low - 5, low - 6} {
			noInt(t, strconv.Itoa(n), low, low-1, api.ErrRange)
			noInt(t, strconv.Itoa(n), low, low-5, api.ErrRange)
			noInt(t, strconv.Itoa(n), low, math.MinInt, api.ErrRange)
			noInt(t, strconv.Itoa(n), math.MaxInt, low, api.ErrRange)
		}
	}
	noInt(t, "0", 1, 2, api.ErrRange)
	noInt(t, "0", -2, -1, api.ErrRange)
	noInt(t, "-1", 0, math.MaxInt, api.ErrRange)
	noInt(t, "1", math.MinInt, 0, api.ErrRange)
	isInt(t, "0", math.MinInt, 0, 0)
	isInt(t, "0", 0, math.MaxInt, 0)
	noInt(t, "0", math.MaxInt, math.MinInt, api.ErrRange)
}

// VA1: whatever text is there, Int is what the words alone give.
func TestIntIsPlain(t *testing.T) {
	r := rand.New(rand.NewSource(10))
	bounds := []int{math.MinInt, -100, -1, 0, 1, 100, mostSeconds, math.MaxInt}
	for range 200000 {
		var b strings.Builder
		for range r.Intn(23) {
			b.WriteByte("0123456789999990-"[r.Intn(17)])
		}
		if r.Intn(40) == 0 {
			b.WriteByte(byte(r.Intn(256)))
		}
		s, low, high := b.String(), bounds[r.Intn(len(bounds))], bounds[r.Intn(len(bounds))]
		want, wrong := plainInt(s, low, high)
		if got, err := value.Int(s, low, high); got != want || !holds(err, wrong) {
			t.Fatalf("Int(%q, %d, %d): %d, %v, not %d, error %d", s, low, high, got, err, want, int(wrong))
		}
	}
}

// VA1: a flag is one of two texts.
func TestFlag(t *testing.T) {
	for s, want := range map[string]bool{"0": false, "1": true} {
		if got, err := value.Flag(s); got != want || err != nil {
			t.Errorf("Flag(%q): %t, %v", s, got, err)
		}
	}
	if got, err := value.Flag(""); got || !holds(err, api.ErrNeed) {
		t.Errorf("Flag of nothing: %t, %v", got, err)
	}
	wrong := []string{"2", "9", "00", "01", "10", "11", "-1", "-0", "+1", " ", "\t", " 0", " 1", "0 ", "1 ", "1\t", "\t1", "1\n", "1\r", "true", "false", "yes", "no", "on", "off", "t", "f", "0,1", "1.0", "0x1", "1\x00", "\x001", "１", "\xff", strings.Repeat("1", 100), strings.Repeat("0", 100)}
	for x := range 256 {
		b := string([]byte{byte(x)})
		wrong = append(wrong, "0"+b, "1"+b, b+"0", b+"1")
		if b != "0" && b != "1" {
			wrong = append(wrong, b)
		}
	}
	for _, s := range wrong {
		if got, err := value.Flag(s); got || !holds(err, api.ErrForm) {
			t.Errorf("Flag(%q): %t, %v", s, got, err)
		}
	}
}

// VA1: the chapter's example, and all units.
func TestSeconds(t *testing.T) {
	isSeconds(t, "5m", 300)
	isSeconds(t, "90", 90)
	isSeconds(t, "90s", 90)
	isSeconds(t, "2h", 7200)
	isSeconds(t, "3d", 259200)
	for _, u := range unitBytes {
		for _, n := range []int{0, 1, 2, 9, 10, 59, 60, 61, 100, 3600, 86400, 999999, mostSeconds - 1, mostSeconds} {
			isSeconds(t, strconv.Itoa(n)+u.text, n*u.each)
		}
		noSeconds(t, strconv.Itoa(mostSeconds+1)+u.text, api.ErrRange)
		noSeconds(t, strconv.Itoa(10*mostSeconds)+u.text, api.ErrRange)
		noSeconds(t, "9223372036854775807"+u.text, api.ErrRange)
		noSeconds(t, "9223372036854775808"+u.text, api.ErrRange)
		noSeconds(t, "9999999999999999999"+u.text, api.ErrRange)
		noSeconds(t, "10000000000000000000"+u.text, api.ErrForm)
		noSeconds(t, "-1"+u.text, api.ErrRange)
		noSeconds(t, "-100"+u.text, api.ErrRange)
	}
}

// VA1: nothing, or nothing ahead of a unit, is the error that Int has of nothing.
func TestSecondsNeeds(t *testing.T) {
	for _, u := range unitBytes {
		noSeconds(t, u.text, api.ErrNeed)
	}
}

// VA1: what stands ahead of a unit must be a number.
func TestSecondsForms(t *testing.T) {
	for _, s := range []string{"1.5m", "1 m", "1ms", "1M", "1S", "1H", "1D", "01h", "00s", "01", "00", "-0", "-0s", "+1", "+1s", "m5", "5 ", " 5", "5m ", " 5m", "5m\t", "5m\n", "5mm", "5sm", "1h30m", "1h 30m", "5min", "5sec", "5w", "5y", "1_0s", "1e3", "-", "-m", "--1s", "5,m", "5m,", "ss", "md", " ", "\t", " m", "0x5", "５m", "5ｍ", "5\x00", "5\xff", "\xffm", "dhms"} {
		noSeconds(t, s, api.ErrForm)
	}
	for x := range 256 {
		b := string([]byte{byte(x)})
		n := strings.Index("smhd", b)
		switch {
		case n >= 0:
			isSeconds(t, "7"+b, 7*unitBytes[n+1].each)
			noSeconds(t, b+"7", api.ErrForm)
			noSeconds(t, "7"+b+"7", api.ErrForm)
			noSeconds(t, "7"+b+b, api.ErrForm)
		case '0' <= x && x <= '9':
			isSeconds(t, "7"+b, 70+x-'0')
		default:
			noSeconds(t, b, api.ErrForm)
			noSeconds(t, "7"+b, api.ErrForm)
			noSeconds(t, "7"+b+"m", api.ErrForm)
		}
	}
}

// VA1: whatever text is there, Seconds is what the words alone give.
func TestSecondsIsPlain(t *testing.T) {
	r := rand.New(rand.NewSource(11))
	for range 100000 {
		var b strings.Builder
		for range r.Intn(1 + r.Intn(22)) {
			b.WriteByte("0123456789000-smhd"[r.Intn(18-4*r.Intn(2))])
		}
		s := b.String() + unitBytes[r.Intn(len(unitBytes))].text
		want, wrong := plainSeconds(s)
		if got, err := value.Seconds(s); got != want || !holds(err, wrong) {
			t.Fatalf("Seconds(%q): %d, %v, not %d, error %d", s, got, err, want, int(wrong))
		}
	}
}

// VA2: a text that is empty, but for blanks, is no list.
func TestListNeeds(t *testing.T) {
	for _, s := range append(blankEnds, strings.Repeat(" ", 100000), strings.Repeat("\t", 100000), strings.Repeat(" \t", 5000)) {
		noList(t, s, api.ErrNeed)
	}
}

// VA2: ordinary lists, with blanks of both kinds where they don't count.
func TestList(t *testing.T) {
	isList(t, "a", "a")
	isList(t, "a,b", "a", "b")
	isList(t, "b,a,c", "b", "a", "c")
	isList(t, "web-1, web-2 ,db", "web-1", "web-2", "db")
	isList(t, "a b,c\td", "a b", "c\td")
	isList(t, "+b,!c,-d,*,null", "+b", "!c", "-d", "*", "null")
	for _, x := range blankEnds {
		for _, y := range blankEnds {
			isList(t, x+"a"+y, "a")
			isList(t, x+"a"+y+","+x+"b"+y, "a", "b")
			isList(t, y+"b"+y+","+x+"a"+x+","+y+"c"+x, "b", "a", "c")
			if x != "" {
				isList(t, y+"a"+x+"b"+y+","+x+"b"+x+"c"+y+","+x+"a", "a"+x+"b", "b"+x+"c", "a")
			}
		}
	}
}

// VA2: parts hold whatever else they do: only commas part them, and only two bytes are blanks.
func TestListEveryByte(t *testing.T) {
	var each []string
	for x := range 256 {
		b := string([]byte{byte(x)})
		switch {
		case b == ",":
			noList(t, b, api.ErrForm)
			noList(t, "a,"+b+",c", api.ErrForm)
			isList(t, "a"+b+"c", "a", "c")
			continue
		case isBlank(b[0]):
			noList(t, b, api.ErrNeed)
			noList(t, "a,"+b+",c", api.ErrForm)
			isList(t, "x"+b+","+b+"y"+b, "x", "y")
		default:
			isList(t, b, b)
			isList(t, " "+b+"\t", b)
			isList(t, "xx"+b+", "+b+"yy,"+b, "xx"+b, b+"yy", b)
			each = append(each, b)
		}
		isList(t, "a"+b+"c,"+"c"+b+"a", "a"+b+"c", "c"+b+"a")
	}
	isList(t, strings.Join(each, ","), each...)
	for _, s := range noBlanks {
		isList(t, s, s)
		isList(t, s+",a"+s+","+s+"a", s, "a"+s, s+"a")
		isList(t, " "+s+" \t,\t"+s+"b", s, s+"b")
	}
	isList(t, "\r", "\r")
	isList(t, " \r ", "\r")
	isList(t, "a\r,a", "a\r", "a")
	isList(t, "\r,a", "\r", "a")
	noList(t, "\r,\r", api.ErrTwice)
}

// VA2: no part may be empty.
func TestListForms(t *testing.T) {
	for _, s := range []string{",", ",,", "a,", ",a", "a,,b", "a, ,b", "a,\t,b", "a, ", " ,a", "a,b,", ",a,b", "a,b,,c", "a,b, \t ,c", " , ", "\t,", ", a ,", "a,b,c,d,", strings.Repeat(",", 10000), strings.Repeat("a,", 10000), "a" + strings.Repeat(",", 10000), commas(many(100)...) + ","} {
		noList(t, s, api.ErrForm)
	}
}

// VA2: no two parts may be the same; blanks at their ends make no difference, all else does.
func TestListTwice(t *testing.T) {
	for _, s := range []string{"a,a", "a, a", "a ,a", "a\t,a", " a,a ", "a,b,a", "b,a,a", "a,b,c,b", "a b, a b", "a,b,c,d,e,f,g,a", "A,a,A", "a,a,a", "é,é", "\xff,\xff", "\r,a,\r"} {
		noList(t, s, api.ErrTwice)
	}
	for _, x := range blankEnds {
		for _, y := range blankEnds {
			noList(t, x+"a"+y+","+y+"a"+x, api.ErrTwice)
			noList(t, x+"b,"+x+"a"+y+",c,"+"a"+x, api.ErrTwice)
		}
	}
	isList(t, "a,A", "a", "A")
	isList(t, "a,aa,aaa", "a", "aa", "aaa")
	isList(t, "a b,a  b,a\tb,ab", "a b", "a  b", "a\tb", "ab")
	isList(t, "\xff,\xfe,\ufffd", "\xff", "\xfe", "\ufffd")
	isList(t, "é,e\u0301", "é", "e\u0301")
	l := many(300)
	for i := range l {
		noList(t, commas(append(l, l[i])...), api.ErrTwice)
		noList(t, commas(append([]string{l[i]}, l...)...), api.ErrTwice)
	}
}

// VA2: there may be MaxList parts.
func TestListMost(t *testing.T) {
	for _, n := range []int{2, 31, 4000, api.MaxList - 1, api.MaxList} {
		isList(t, commas(many(n)...), many(n)...)
		isList(t, " "+strings.Join(many(n), " ,\t")+" ", many(n)...)
	}
	for _, n := range []int{api.MaxList + 1, api.MaxList + 2, 2 * api.MaxList, 100000} {
		noList(t, commas(many(n)...), api.ErrLong)
		noList(t, strings.Join(many(n), " , "), api.ErrLong)
	}
	long := strings.Repeat("l", 1<<18)
	isList(t, long+",a", long, "a")
}

// VA2: of several faults, List tells that which the rule names first, where they ever stand.
func TestListOrder(t *testing.T) {
	over := commas(many(api.MaxList + 1)...)
	full := commas(many(api.MaxList)...)
	for _, s := range []string{"a,a,", ",a,a", "a,,a", "a,a, ", " ,b,b", "b,b,,c", "\t,\t", over + ",", "," + over, over + ", ,x", over + ",n0,", ",n0," + over, full + ",", full + ",n0,", "n0,n0,," + over, full + ", ,n0"} {
		noList(t, s, api.ErrForm)
	}
	for _, s := range []string{over + ",n0", "n0," + over, over + ", n4096", "x,x," + over, full + ",n0", full + ",n4095\t", strings.Repeat("a,", api.MaxList) + "a"} {
		noList(t, s, api.ErrTwice)
	}
	noList(t, strings.Repeat(" ", api.MaxList+1), api.ErrNeed)
	noList(t, strings.Repeat(" ,", api.MaxList+1), api.ErrForm)
}

// VA2: whatever text is there, List is what the words alone give.
func TestListIsPlain(t *testing.T) {
	r := rand.New(rand.NewSource(12))
	for range 100000 {
		var b strings.Builder
		for range r.Intn(12) {
			b.WriteByte("abcde,,,  \t\rA\xff"[r.Intn(14)])
		}
		want, wrong := plainList(b.String())
		if wrong == 0 {
			isList(t, b.String(), want...)
		} else {
			noList(t, b.String(), wrong)
		}
	}
}

// VA2: all texts of up to seven bytes, of which each stands for its kind.
func TestListAllShortTexts(t *testing.T) {
	texts := []string{""}
	for n := 0; n <= 7; n++ {
		var longer []string
		for _, s := range texts {
			if want, wrong := plainList(s); wrong == 0 {
				isList(t, s, want...)
			} else {
				noList(t, s, wrong)
			}
			for _, b := range []string{"a", "b", ",", " ", "\t"} {
				longer = append(longer, s+b)
			}
		}
		texts = longer
	}
}

// VA2: no parts are no list, nil or not.
func TestJoinedNeeds(t *testing.T) {
	noJoined(t, nil, api.ErrNeed)
	noJoined(t, []string{}, api.ErrNeed)
	noJoined(t, make([]string, 0, 10), api.ErrNeed)
	noJoined(t, []string{"a"}[:0], api.ErrNeed)
}

// VA2: one part, and many.
func TestJoined(t *testing.T) {
	isJoined(t, []string{"a"}, "a")
	isJoined(t, []string{"a", "b"}, "a,b")
	isJoined(t, []string{"b", "a", "c"}, "b,a,c")
	isJoined(t, []string{"a b", "c\td", "e \t f"}, "a b,c\td,e \t f")
	isJoined(t, []string{"a", "A", "aa", "+a", "!a", "*", "\r", "a\r", "\ra", "\xff", "\xfe", "\ufffd", "é", "\x00", "\n"}, "a,A,aa,+a,!a,*,\r,a\r,\ra,\xff,\xfe,\ufffd,é,\x00,\n")
	for _, n := range []int{2, 31, 4000, api.MaxList - 1, api.MaxList} {
		isJoined(t, many(n), commas(many(n)...))
	}
	long := strings.Repeat("l", 1<<18)
	isJoined(t, []string{long, "a"}, long+",a")
}

// VA2: no part may be empty, have a comma, or a blank at one of its ends.
func TestJoinedForms(t *testing.T) {
	wrong := []string{"", ",", ",,", "a,", ",a", "a,b", "a ,b", "a, b", strings.Repeat("a", 1000) + ",", " ", "\t", " \t ", " a", "\ta", "a ", "a\t", " a ", "\ta\t", "a b ", " a b", "\ta\tb", strings.Repeat(" ", 1000), strings.Repeat("a", 1000) + " ", "\r ", " \r", " ,"}
	for _, s := range wrong {
		noJoined(t, []string{s}, api.ErrForm)
		noJoined(t, []string{s, "x"}, api.ErrForm)
		noJoined(t, []string{"x", s}, api.ErrForm)
		noJoined(t, []string{"x", s, "y"}, api.ErrForm)
		noJoined(t, append(many(1000), s), api.ErrForm)
		for _, other := range wrong {
			noJoined(t, []string{s, other}, api.ErrForm)
		}
	}
}

// VA2: each byte at a part's begin, within and at its end.
func TestJoinedEveryByte(t *testing.T) {
	for x := range 256 {
		b := string([]byte{byte(x)})
		switch {
		case b == ",":
			noJoined(t, []string{"a" + b + "c"}, api.ErrForm)
			noJoined(t, []string{b + "ac"}, api.ErrForm)
			noJoined(t, []string{"ac" + b}, api.ErrForm)
		case isBlank(b[0]):
			isJoined(t, []string{"a" + b + "c", "a"}, "a"+b+"c,a")
			noJoined(t, []string{b + "ac"}, api.ErrForm)
			noJoined(t, []string{"ac" + b}, api.ErrForm)
			noJoined(t, []string{b}, api.ErrForm)
		default:
			isJoined(t, []string{"aa" + b + "cc", b + "ac", "ac" + b, b}, "aa"+b+"cc,"+b+"ac,ac"+b+","+b)
		}
	}
	for _, s := range noBlanks {
		isJoined(t, []string{s, s + "a", "a" + s}, s+","+s+"a,a"+s)
	}
}

// VA2: no two parts may be the same.
func TestJoinedTwice(t *testing.T) {
	for _, l := range [][]string{{"a", "a"}, {"a", "b", "a"}, {"b", "a", "a"}, {"a", "a", "a"}, {"a b", "c", "a b"}, {"\xff", "\xff"}, {"\r", "\r"}} {
		noJoined(t, l, api.ErrTwice)
	}
	l := many(300)
	for i := range l {
		noJoined(t, append(l, l[i]), api.ErrTwice)
		noJoined(t, append([]string{l[i]}, l...), api.ErrTwice)
	}
}

// VA2: there may be MaxList parts; of several faults, Joined tells that which the rule names first.
func TestJoinedOrder(t *testing.T) {
	over := many(api.MaxList + 1)
	for _, n := range []int{api.MaxList + 1, api.MaxList + 2, 2 * api.MaxList, 100000} {
		noJoined(t, many(n), api.ErrLong)
	}
	for _, s := range []string{"", " ", "a ", "\ta", "a,b"} {
		noJoined(t, []string{"x", "x", s}, api.ErrForm)
		noJoined(t, []string{s, "x", "x"}, api.ErrForm)
		noJoined(t, []string{s, s}, api.ErrForm)
		noJoined(t, append(over, s), api.ErrForm)
		noJoined(t, append([]string{s}, over...), api.ErrForm)
		noJoined(t, append(over, "n0", s), api.ErrForm)
		noJoined(t, append([]string{s, "n0"}, over...), api.ErrForm)
	}
	noJoined(t, append(over, "n0"), api.ErrTwice)
	noJoined(t, append(over, "n4096"), api.ErrTwice)
	noJoined(t, append([]string{"x", "x"}, over...), api.ErrTwice)
	noJoined(t, append(many(api.MaxList), "n7"), api.ErrTwice)
	noJoined(t, slices.Repeat([]string{"a"}, api.MaxList+1), api.ErrTwice)
	noJoined(t, make([]string, api.MaxList+1), api.ErrForm)
}

// VA2: whatever parts are there, Joined is what the words alone give.
func TestJoinedIsPlain(t *testing.T) {
	r := rand.New(rand.NewSource(13))
	for range 100000 {
		var l []string
		for range r.Intn(6) {
			var b strings.Builder
			for range 1 + r.Intn(12)/3 {
				b.WriteByte("abcdefghabcdefghAB\xff\r, \t"[r.Intn(23)])
			}
			l = append(l, b.String()[:b.Len()-r.Intn(40)/39])
		}
		want, wrong := plainJoined(l)
		if wrong == 0 {
			isJoined(t, l, want)
		} else {
			noJoined(t, l, wrong)
		}
	}
}

// VA3: what can't be letters is told ahead of what the text says.
func TestOptionsNoLetters(t *testing.T) {
	for _, letters := range noLetters {
		for _, s := range []string{"", " ", "d", "n", "d,u", "d,d", "d,", ",", "D", "x", "dd", letters, commas(many(api.MaxList + 1)...)} {
			noOptions(t, s, letters, api.ErrArg)
		}
	}
	for x := range 256 {
		b := string([]byte{byte(x)})
		for i, letters := range []string{b, b + "ij", "i" + b + "j", "ij" + b} {
			switch {
			case !strings.Contains(smallLetters, b) || i > 0 && (b == "i" || b == "j"):
				noOptions(t, "i", letters, api.ErrArg)
			case b == "i" || i > 0:
				isOptions(t, "i", letters, 1<<strings.Index(letters, "i"))
			default:
				noOptions(t, "i", letters, api.ErrForm)
			}
		}
	}
}

// VA3: letters may be none, one, and 16, in any order.
func TestOptionsLetters(t *testing.T) {
	isOptions(t, "n", "", 0)
	for _, s := range []string{"a", "d", "nn", "n,a", "N"} {
		noOptions(t, s, "", api.ErrForm)
	}
	for i := range len(smallLetters) {
		one := smallLetters[i : i+1]
		isOptions(t, one, one, 1)
		isOptions(t, " "+one+"\t", one, 1)
	}
	for _, letters := range []string{"dur", "rud", "udr", "wucr", "zyx", sixteen, smallLetters[:16], smallLetters[10:], "n", "an", "na", "nm"} {
		for i := range len(letters) {
			isOptions(t, letters[i:i+1], letters, 1<<i)
			isOptions(t, letters[i:i+1]+" ", letters, 1<<i)
		}
	}
	noOptions(t, "a", sixteen+"k", api.ErrArg)
	noOptions(t, "a", sixteen[1:]+"az", api.ErrArg)
}

// VA3: the chapter's example, all letters in their order and turned round, and bits of some.
func TestOptions(t *testing.T) {
	isOptions(t, "d,u", "dur", 3)
	isOptions(t, "u,d", "dur", 3)
	isOptions(t, "d", "dur", 1)
	isOptions(t, "u", "dur", 2)
	isOptions(t, "r", "dur", 4)
	isOptions(t, "d,r", "dur", 5)
	isOptions(t, " r ,\tu", "dur", 6)
	isOptions(t, "d,u,r", "dur", 7)
	isOptions(t, "n", "dur", 0)
	isOptions(t, " n\t", "dur", 0)
	for n := range 17 {
		letters := sixteen[:n]
		order := strings.Split(letters, "")
		if n == 0 {
			continue
		}
		isOptions(t, commas(order...), letters, 1<<n-1)
		isOptions(t, " "+strings.Join(order, " , ")+"\t", letters, 1<<n-1)
		slices.Reverse(order)
		isOptions(t, commas(order...), letters, 1<<n-1)
		isOptions(t, strings.Join(order, ",\t"), letters, 1<<n-1)
	}
}

// VA3: List's errors come ahead of what the parts say.
func TestOptionsListErrors(t *testing.T) {
	over := commas(many(api.MaxList + 1)...)
	for _, letters := range []string{"", "dur", "n", "dn", sixteen} {
		for _, s := range blankEnds {
			noOptions(t, s, letters, api.ErrNeed)
		}
		for _, s := range []string{",", "n,", ",n", "d,", "d,,u", "d, ,u", "x,", "d,d,", "n,n,", over + ",", ",X"} {
			noOptions(t, s, letters, api.ErrForm)
		}
		for _, s := range []string{"d,d", "d,u,d", "d, d", "n,n", "n, n", "x,x", "X,d,X", "n,d,n", "dd,dd", over + ",n0", "x,x," + over} {
			noOptions(t, s, letters, api.ErrTwice)
		}
		noOptions(t, over, letters, api.ErrLong)
		noOptions(t, "n,"+over, letters, api.ErrLong)
		noOptions(t, "d,x,"+over, letters, api.ErrLong)
	}
}

// VA3: a part is one of the letters.
func TestOptionsForms(t *testing.T) {
	for _, s := range []string{"x", "d,x", "x,d", "du", "dur", "ur", "d,ur", "D", "d,U", "N", "nn", "n,d", "d,n", "d,u,n", "n,d,u,r", "0", "1", "-", "*", "d u", "d;u", "d.u", "é", "\xff", "d\xff", "\r", "d\r", "\rd", "d,\r", "n\r", "+d", "!d", "n,x", "x,n", "all", "none"} {
		noOptions(t, s, "dur", api.ErrForm)
	}
	for x := range 256 {
		b := string([]byte{byte(x)})
		if b == "," || isBlank(b[0]) {
			continue
		}
		switch i := strings.Index("dur", b); {
		case i >= 0:
			isOptions(t, b, "dur", 1<<i)
		case b == "n":
			isOptions(t, b, "dur", 0)
			noOptions(t, b+",d", "dur", api.ErrForm)
			noOptions(t, "r,"+b, "dur", api.ErrForm)
		default:
			noOptions(t, b, "dur", api.ErrForm)
			noOptions(t, b+",d", "dur", api.ErrForm)
			noOptions(t, "r, "+b, "dur", api.ErrForm)
		}
		noOptions(t, b+b, "dur", api.ErrForm)
		noOptions(t, "d"+b, "dur", api.ErrForm)
		noOptions(t, b+"d", "dur", api.ErrForm)
	}
}

// VA3: where one of the letters is an n, that is a letter like all others.
func TestOptionsWithN(t *testing.T) {
	for _, letters := range []string{"n", "nd", "dn", "ndu", "dnu", "dun"} {
		bit := 1 << strings.Index(letters, "n")
		isOptions(t, "n", letters, bit)
		isOptions(t, "\tn ", letters, bit)
		noOptions(t, "n,n", letters, api.ErrTwice)
		noOptions(t, "nn", letters, api.ErrForm)
		noOptions(t, "N", letters, api.ErrForm)
		noOptions(t, "n,x", letters, api.ErrForm)
		order := strings.Split(letters, "")
		isOptions(t, commas(order...), letters, 1<<len(letters)-1)
		slices.Reverse(order)
		isOptions(t, commas(order...), letters, 1<<len(letters)-1)
		if d := strings.Index(letters, "d"); d >= 0 {
			isOptions(t, "n,d", letters, bit|1<<d)
			isOptions(t, "d,n", letters, bit|1<<d)
			isOptions(t, "d", letters, 1<<d)
		}
	}
	isOptions(t, "u,n,d", "dun", 7)
	isOptions(t, "n,u,d", "dnu", 7)
	isOptions(t, "n,o", "on"+smallLetters[:12], 3)
}

// VA3: bits as letters, in their order.
func TestLetters(t *testing.T) {
	for bits, want := range []string{"n", "d", "u", "d,u", "r", "d,r", "u,r", "d,u,r"} {
		isLetters(t, bits, "dur", want)
	}
	isLetters(t, 0, "", "n")
	for _, letters := range []string{"a", "z", "ba", "dur", "rud", "wucrfs", sixteen[:15], sixteen} {
		isLetters(t, 0, letters, "n")
		for i := range len(letters) {
			isLetters(t, 1<<i, letters, letters[i:i+1])
		}
		isLetters(t, 1<<len(letters)-1, letters, commas(strings.Split(letters, "")...))
		for i := range len(letters) - 1 {
			isLetters(t, 1<<len(letters)-1-1<<i, letters, commas(strings.Split(letters[:i]+letters[i+1:], "")...))
		}
	}
}

// VA3: bits that there are no letters for.
func TestLettersBeyond(t *testing.T) {
	for _, letters := range []string{"", "a", "ba", "dur", sixteen[:15], sixteen} {
		n := len(letters)
		for i := n; i < 63; i++ {
			notLetters(t, 1<<i, letters)
			notLetters(t, 1<<i+1<<n-1, letters)
		}
		for _, bits := range []int{1<<n + 1, math.MaxInt, math.MinInt, math.MinInt + 1, -1, -2, -1 << n, -1<<n + 1, -1 << 16, -1 << 32, math.MinInt + 1<<n - 1} {
			if bits >= 1<<n || bits < 0 {
				notLetters(t, bits, letters)
			}
		}
	}
}

// VA3: letters that can't be, or that have an n.
func TestLettersNoLetters(t *testing.T) {
	for _, letters := range append(noLetters, "n", "nd", "dn", "dnu", "abcdefghijklmnop", sixteen[1:]+"n") {
		for _, bits := range []int{0, 1, 2, 3, 1 << 15, 1 << 16, -1, math.MaxInt, math.MinInt} {
			notLetters(t, bits, letters)
		}
	}
	for x := range 256 {
		b := string([]byte{byte(x)})
		for i, letters := range []string{b, b + "ij", "i" + b + "j", "ij" + b} {
			if !strings.Contains(smallLetters, b) || b == "n" || i > 0 && (b == "i" || b == "j") {
				notLetters(t, 0, letters)
				notLetters(t, 1, letters)
			} else {
				isLetters(t, 1, letters, letters[:1])
			}
		}
	}
}

// VA3: whatever is given, Options and Letters are what the words alone give.
func TestOptionsIsPlain(t *testing.T) {
	r := rand.New(rand.NewSource(14))
	for range 100000 {
		var s, letters strings.Builder
		for range r.Intn(9) {
			s.WriteByte("abn,,, \tA"[r.Intn(9)])
		}
		for range r.Intn(5) {
			letters.WriteByte("abcdefgnA"[r.Intn(9)])
		}
		want, wrong := plainOptions(s.String(), letters.String())
		if wrong == 0 {
			isOptions(t, s.String(), letters.String(), want)
		} else {
			noOptions(t, s.String(), letters.String(), wrong)
		}
		for bits := -1; bits <= 1<<letters.Len(); bits++ {
			if want, wrong := plainLetters(bits, letters.String()); wrong == 0 {
				isLetters(t, bits, letters.String(), want)
			} else {
				notLetters(t, bits, letters.String())
			}
		}
	}
}

// VA4: List of Joined is the list.
func TestListOfJoined(t *testing.T) {
	r := rand.New(rand.NewSource(15))
	for range 20000 {
		l := make([]string, 1+r.Intn(8))
		for i := range l {
			b := make([]byte, 1+r.Intn(5))
			for j := range b {
				b[j] = byte(r.Intn(256))
			}
			l[i] = string(b)
		}
		s, err := value.Joined(l)
		if err != nil {
			continue
		}
		isList(t, s, l...)
	}
	for _, l := range [][]string{{"a"}, {"a", "b"}, {"b", "a"}, {"a b", "a\tb"}, {"\r"}, {"\r", "\n"}, many(api.MaxList)} {
		s, err := value.Joined(l)
		if err != nil {
			t.Errorf("Joined(%.60q): %v", l, err)
		}
		isList(t, s, l...)
	}
}

// VA4: Joined of List is the list without blanks at its parts' ends.
func TestJoinedOfList(t *testing.T) {
	for _, x := range blankEnds {
		for _, y := range blankEnds {
			l, err := value.List(x + "b" + y + "," + y + "a" + x + "," + x + "c d" + y)
			if err != nil {
				t.Errorf("List, with blanks %q and %q: %v", x, y, err)
			}
			isJoined(t, l, "b,a,c d")
		}
	}
}

// VA4: Options of Letters are the bits, of all bits that there are.
func TestOptionsOfLetters(t *testing.T) {
	for n := range 17 {
		letters := sixteen[:n]
		for bits := range 1 << n {
			s, err := value.Letters(bits, letters)
			if err != nil {
				t.Fatalf("Letters(%b, %q): %v", bits, letters, err)
			}
			isOptions(t, s, letters, bits)
		}
	}
}

// Rule 3: parts that are handed in stay as they were, what lies behind them too.
func TestJoinedChangesNothing(t *testing.T) {
	for _, l := range [][]string{{"a", "b", "c", "d"}, {"b", "a", "", "x"}, {"a", "a", "b", "c"}, {" a", "b,c", "d", ""}} {
		was := slices.Clone(l)
		first, _ := value.Joined(l[:2])
		again, _ := value.Joined(l[:2])
		if !slices.Equal(l, was) || first != again {
			t.Errorf("Joined of two of %q: %q, then %q of %q", was, first, again, l)
		}
		if value.Joined(l); !slices.Equal(l, was) {
			t.Errorf("Joined(%q): %q is left", was, l)
		}
	}
	l := []string{"a", "b"}
	s, _ := value.Joined(l)
	l[0] = "c"
	if s != "a,b" {
		t.Errorf("the text of a list that was changed: %q", s)
	}
}

// Rule 3: each list that is answered is new memory, spare room too.
func TestListIsNew(t *testing.T) {
	for _, n := range []int{1, 2, 3, 5, 9, 100, api.MaxList} {
		s := commas(many(n)...)
		first, _ := value.List(s)
		second, _ := value.List(s)
		spare := first[:cap(first)]
		for i := range spare {
			spare[i] = "changed"
		}
		if !slices.Equal(second, many(n)) {
			t.Errorf("a list of %d parts, after another one was changed: %.60q", n, second)
		}
		isList(t, s, many(n)...)
	}
}

// Rule 4: an answer hangs on the arguments alone, not on calls ahead of it.
func TestNothingIsKept(t *testing.T) {
	told := func() string {
		var b strings.Builder
		for _, s := range []string{"", "a", "a,b", "a,a", ",", "n", "d,u", "1", "01", "5m", "99999999999", commas(many(api.MaxList + 1)...)} {
			n, err := value.Int(s, -5, 5)
			flag, errFlag := value.Flag(s)
			seconds, errSeconds := value.Seconds(s)
			bits, errBits := value.Options(s, "dur")
			l, errList := value.List(s)
			joined, errJoined := value.Joined(l)
			letters, errLetters := value.Letters(bits, "dur")
			fmt.Fprintln(&b, n, err, flag, errFlag, seconds, errSeconds, bits, errBits, l, errList, joined, errJoined, letters, errLetters)
		}
		return b.String()
	}
	want := told()
	for range 20 {
		if got := told(); got != want {
			t.Fatalf("told first:\n%s\nthen:\n%s", want, got)
		}
	}
}

// Rule 1: great texts and lists end, too.
func TestGreatOnes(t *testing.T) {
	great := strings.Repeat("x", 1<<22)
	isList(t, great, great)
	isNoNumber(t, great)
	noSeconds(t, great, api.ErrForm)
	noOptions(t, great, "dur", api.ErrForm)
	noOptions(t, "d", strings.Repeat("x", 1<<22), api.ErrArg)
	notLetters(t, 1, great)
	noList(t, strings.Repeat(",", 1<<22), api.ErrForm)
	noList(t, strings.Repeat(" ", 1<<22), api.ErrNeed)
	noList(t, commas(many(1<<18)...), api.ErrLong)
	noJoined(t, many(1<<18), api.ErrLong)
	noJoined(t, slices.Repeat([]string{"a"}, 1<<18), api.ErrTwice)
}

// FuzzValue holds all calls against the words alone.
func FuzzValue(f *testing.F) {
	f.Add("", 0, 0, "")
	f.Add("5m", 0, 10, "dur")
	f.Add("d, u", -1, 1, "dur")
	f.Add("n", 7, 7, "n")
	f.Add("-9223372036854775808", math.MinInt, math.MaxInt, "zz")
	f.Fuzz(func(t *testing.T, s string, low, high int, letters string) {
		n, wrong := plainInt(s, low, high)
		if got, err := value.Int(s, low, high); got != n || !holds(err, wrong) {
			t.Errorf("Int(%q, %d, %d): %d, %v", s, low, high, got, err)
		}
		n, wrong = plainSeconds(s)
		if got, err := value.Seconds(s); got != n || !holds(err, wrong) {
			t.Errorf("Seconds(%q): %d, %v", s, got, err)
		}
		l, wrong := plainList(s)
		if got, err := value.List(s); !slices.Equal(got, l) || !holds(err, wrong) {
			t.Errorf("List(%q): %q, %v", s, got, err)
		}
		raw := strings.Split(s, ";")
		text, wrong := plainJoined(raw)
		if got, err := value.Joined(raw); got != text || !holds(err, wrong) {
			t.Errorf("Joined(%q): %q, %v", raw, got, err)
		}
		n, wrong = plainOptions(s, letters)
		if got, err := value.Options(s, letters); got != n || !holds(err, wrong) {
			t.Errorf("Options(%q, %q): %d, %v", s, letters, got, err)
		}
		text, wrong = plainLetters(low, letters)
		if got, err := value.Letters(low, letters); got != text || !holds(err, wrong) {
			t.Errorf("Letters(%d, %q): %q, %v", low, letters, got, err)
		}
	})
}
