package lex_test

import (
	"errors"
	"math/rand"
	"slices"
	"strings"
	"testing"

	"belvedere/api"
	"belvedere/lex"
)

// threeBlanks are all bytes that are blanks.
const threeBlanks = " \t\r"

// noBlanks are such as some take for blanks.
var noBlanks = []string{"\n", "\v", "\f", "\x00", "\xa0", "\x85", "\u00a0", "\u0085", "\u1680", "\u2003", "\u2028", "\u200b", "\u3000", "\ufeff", "\ufffd", "\xe3\x80"}

// isBlank tells whether a byte is a blank.
func isBlank(b byte) bool { return b == 32 || b == 9 || b == 13 }

// plainTrim is Trim byte by byte.
func plainTrim(s string) string {
	from, to := 0, len(s)
	for from < to && isBlank(s[from]) {
		from++
	}
	for from < to && isBlank(s[to-1]) {
		to--
	}
	return s[from:to]
}

// plainWords is Words byte by byte.
func plainWords(s string) []string {
	var all []string
	for i := range len(s) {
		if isBlank(s[i]) {
			continue
		}
		if i == 0 || isBlank(s[i-1]) {
			all = append(all, "")
		}
		all[len(all)-1] += s[i : i+1]
	}
	return all
}

// plainSaid is what is left of a line, byte by byte.
func plainSaid(line string) string {
	begun := false
	for i := range len(line) {
		if line[i] == ';' {
			return plainTrim(line[:i])
		}
		if !begun && line[i] == '#' {
			return ""
		}
		begun = begun || !isBlank(line[i])
	}
	return plainTrim(line)
}

// plainLines is Lines byte by byte, of texts in which nothing is too long.
func plainLines(s string) []lex.Line {
	var all []lex.Line
	at, next := 1, 1
	var line []byte
	end := func() {
		if text := plainSaid(string(line)); text != "" {
			all = append(all, lex.Line{At: at, Text: text})
		}
		line = nil
	}
	for i := 0; i < len(s); i++ {
		ends := i+1 == len(s) || s[i+1] == '\n'
		switch {
		case s[i] == '\\' && ends:
			i++
			next++
		case s[i] == '\n':
			end()
			next++
			at = next
		default:
			line = append(line, s[i])
		}
	}
	end()
	return all
}

// holds tells whether an error is just that number.
func holds(err error, want api.Errno) bool {
	var got api.Errno
	return errors.As(err, &got) && got == want
}

// isLines asks for a text's lines.
func isLines(t *testing.T, s string, want []lex.Line) {
	t.Helper()
	if got, at, err := lex.Lines(s); !slices.Equal(got, want) || at != 0 || err != nil {
		t.Errorf("Lines(%.60q), of %d bytes: %v, %d, %v, not %v", s, len(s), got, at, err, want)
	}
}

// isTooLong asks for the number of the line that is too long, and for nothing beside it.
func isTooLong(t *testing.T, s string, want int) {
	t.Helper()
	if got, at, err := lex.Lines(s); len(got) != 0 || at != want || !holds(err, api.ErrLong) {
		t.Errorf("Lines(%.60q), of %d bytes: %d lines, %d, %v, not too long at %d", s, len(s), len(got), at, err, want)
	}
}

// isWords asks for a text's words.
func isWords(t *testing.T, s string, want []string) {
	t.Helper()
	if got := lex.Words(s); !slices.Equal(got, want) {
		t.Errorf("Words(%q): %q, not %q", s, got, want)
	}
}

// isTrim asks for a text without blanks at its ends.
func isTrim(t *testing.T, s, want string) {
	t.Helper()
	if got := lex.Trim(s); got != want {
		t.Errorf("Trim(%q): %q, not %q", s, got, want)
	}
}

// everyText takes all texts of some bytes, of up to so many of them.
func everyText(of string, most int, take func(s string)) {
	var further func(s string)
	further = func(s string) {
		take(s)
		if len(s) < most {
			for i := range len(of) {
				further(s + of[i:i+1])
			}
		}
	}
	further("")
}

// someText is a text of so many of these pieces.
func someText(r *rand.Rand, n int, pieces ...string) string {
	var b strings.Builder
	for range n {
		b.WriteString(pieces[r.Intn(len(pieces))])
	}
	return b.String()
}

// LX1: the chapter's example.
func TestExample(t *testing.T) {
	isLines(t, "a ;x\n# b\nc\\\nd", []lex.Line{{1, "a"}, {3, "cd"}})
	isLines(t, "a ;x\n# b\nc\\\nd\n", []lex.Line{{1, "a"}, {3, "cd"}})
}

// LX1: lines are parted by the byte 10 alone, and counted from 1.
func TestLinesAndTheirNumbers(t *testing.T) {
	for _, c := range []struct {
		s    string
		want []lex.Line
	}{
		{"", nil},
		{"\n", nil},
		{"\n\n\n", nil},
		{"a", []lex.Line{{1, "a"}}},
		{"a\n", []lex.Line{{1, "a"}}},
		{"\na", []lex.Line{{2, "a"}}},
		{"\n\n\na\n\n", []lex.Line{{4, "a"}}},
		{"a\nb", []lex.Line{{1, "a"}, {2, "b"}}},
		{"a\nb\n", []lex.Line{{1, "a"}, {2, "b"}}},
		{"a\n\nb\n\n\nc", []lex.Line{{1, "a"}, {3, "b"}, {6, "c"}}},
		{"a\r\nb\r\n", []lex.Line{{1, "a"}, {2, "b"}}},
		{"a\rb\n\rc", []lex.Line{{1, "a\rb"}, {2, "c"}}},
		{"b\na\nb", []lex.Line{{1, "b"}, {2, "a"}, {3, "b"}}},
		{"define host {\n  name a\n}\n", []lex.Line{{1, "define host {"}, {2, "name a"}, {3, "}"}}},
		{"a\vb\n\fc\u2028d\u0085\n", []lex.Line{{1, "a\vb"}, {2, "\fc\u2028d\u0085"}}},
	} {
		isLines(t, c.s, c.want)
	}
}

// LX1: blanks at the ends are left out, and lines of blanks alone; blanks within stay.
func TestLinesWithoutBlanksAtTheirEnds(t *testing.T) {
	for _, blank := range []string{" ", "\t", "\r", "  ", " \t\r", "\r\t "} {
		isLines(t, blank, nil)
		isLines(t, blank+"\n"+blank+"\n", nil)
		isLines(t, blank+"a", []lex.Line{{1, "a"}})
		isLines(t, "a"+blank, []lex.Line{{1, "a"}})
		isLines(t, blank+"\n"+blank+"a"+blank+"b"+blank+"\n"+blank+"\nc", []lex.Line{{2, "a" + blank + "b"}, {4, "c"}})
	}
	for _, other := range noBlanks[1:] {
		isLines(t, other, []lex.Line{{1, other}})
		isLines(t, " "+other+" a "+other+" \n", []lex.Line{{1, other + " a " + other}})
	}
}

// LX1: bytes of every value.
func TestLinesOfEveryByte(t *testing.T) {
	for x := range 256 {
		b := string([]byte{byte(x)})
		var alone, ahead, within, behind []lex.Line
		switch b {
		case "\n":
			ahead, within, behind = []lex.Line{{2, "yz"}}, []lex.Line{{1, "y"}, {2, "z"}}, []lex.Line{{1, "yz"}}
		case ";":
			within, behind = []lex.Line{{1, "y"}}, []lex.Line{{1, "yz"}}
		case "#":
			within, behind = []lex.Line{{1, "y#z"}}, []lex.Line{{1, "yz#"}}
		case "\\":
			ahead, within, behind = []lex.Line{{1, `\yz`}}, []lex.Line{{1, `y\z`}}, []lex.Line{{1, "yz"}}
		case " ", "\t", "\r":
			ahead, within, behind = []lex.Line{{1, "yz"}}, []lex.Line{{1, "y" + b + "z"}}, []lex.Line{{1, "yz"}}
		default:
			alone, ahead, within, behind = []lex.Line{{1, b}}, []lex.Line{{1, b + "yz"}}, []lex.Line{{1, "y" + b + "z"}}, []lex.Line{{1, "yz" + b}}
		}
		isLines(t, b, alone)
		isLines(t, b+"yz", ahead)
		isLines(t, "y"+b+"z", within)
		isLines(t, "yz"+b, behind)
	}
}

// LX1: texts that are no UTF-8 are kept byte by byte.
func TestLinesOfNoCharacters(t *testing.T) {
	for _, s := range []string{"\xff", "\xc3", "\xc3\x28", "\xe2\x82", "\xed\xa0\x80", "\xf8\x88\x80\x80\x80", "\xc0\x80", "\x80\x80", "a\xffb\x00c"} {
		isLines(t, s, []lex.Line{{1, s}})
		isLines(t, "\t"+s+" ;"+s+"\n"+s+"\\\n"+s+"\n#"+s+"\n"+s, []lex.Line{{1, s}, {2, s + s}, {5, s}})
	}
	var b []byte
	for x := range 256 {
		b = append(b, byte(x))
	}
	want := []lex.Line{{1, string(b[:9])}, {2, string(b[11:';'])}}
	isLines(t, string(b), want)
	isLines(t, string(b)+"\n"+string(b[128:]), append(want, lex.Line{At: 3, Text: string(b[128:])}))
}

// LX1: a line that ends with a `\` goes on.
func TestLinesThatGoOn(t *testing.T) {
	for _, c := range []struct {
		s    string
		want []lex.Line
	}{
		{"a\\\nb", []lex.Line{{1, "ab"}}},
		{"a\\\nb\n", []lex.Line{{1, "ab"}}},
		{"a\\\nb\nc\nd\n", []lex.Line{{1, "ab"}, {3, "c"}, {4, "d"}}},
		{"x\na \\\n b\nc", []lex.Line{{1, "x"}, {2, "a  b"}, {4, "c"}}},
		{" a\\\n\tb \nc", []lex.Line{{1, "a\tb"}, {3, "c"}}},

		// What stands behind the `\` makes it a byte as any other.
		{"a\\ \nb", []lex.Line{{1, `a\`}, {2, "b"}}},
		{"a\\\t\nb", []lex.Line{{1, `a\`}, {2, "b"}}},
		{"a\\\r\nb", []lex.Line{{1, `a\`}, {2, "b"}}},
		{"a\\;x\nb", []lex.Line{{1, `a\`}, {2, "b"}}},
		{"a\\ ; x\nb", []lex.Line{{1, `a\`}, {2, "b"}}},
		{"a\\#\nb", []lex.Line{{1, `a\#`}, {2, "b"}}},
		{"a\\b\nc", []lex.Line{{1, `a\b`}, {2, "c"}}},
		{"\\a\nc", []lex.Line{{1, `\a`}, {2, "c"}}},

		// More than one, one behind the other, and lines that go on, parted by one that doesn't.
		{"a\\\nb\\\nc\nd", []lex.Line{{1, "abc"}, {4, "d"}}},
		{"a\\\nb\\\nc\\\nd\\\ne\nf", []lex.Line{{1, "abcde"}, {6, "f"}}},
		{"a\\\nb\nc\\\nd\ne", []lex.Line{{1, "ab"}, {3, "cd"}, {5, "e"}}},
		{"\na\\\nb\n\nc\\\nd\\\ne\n\nf", []lex.Line{{2, "ab"}, {5, "cde"}, {9, "f"}}},

		// A `\` alone.
		{"\\", nil},
		{"\\\n", nil},
		{"\\\n\\\n\\", nil},
		{"\\\n\\\n\\\n", nil},
		{"\\\na", []lex.Line{{1, "a"}}},
		{"\\\n\\\na\nb", []lex.Line{{1, "a"}, {4, "b"}}},
		{"a\\\n\\\nb\nc", []lex.Line{{1, "ab"}, {4, "c"}}},
		{" \\\n \\\n\nb", []lex.Line{{4, "b"}}},
		{"a\n\\\n\nb", []lex.Line{{1, "a"}, {4, "b"}}},

		// Two: the last one goes, and the one ahead of it is no line's end any more.
		{"a\\\\\nb\nc", []lex.Line{{1, `a\b`}, {3, "c"}}},
		{"a\\\\\n\nb", []lex.Line{{1, `a\`}, {3, "b"}}},
		{"a\\\\\n\\\nb\nc", []lex.Line{{1, `a\b`}, {4, "c"}}},
		{"\\\\\n\\\\\n\\\\", []lex.Line{{1, `\\\`}}},
		{"a\\\\\\\nb", []lex.Line{{1, `a\\b`}}},
		{"a\\\\", []lex.Line{{1, `a\`}}},
		{"a\\\\\n", []lex.Line{{1, `a\`}}},

		// An empty line behind: it ends there.
		{"a\\\n\nb", []lex.Line{{1, "a"}, {3, "b"}}},
		{"a\\\n\n\nb", []lex.Line{{1, "a"}, {4, "b"}}},
		{"a\\\n  \nb", []lex.Line{{1, "a"}, {3, "b"}}},

		// The last line's.
		{"a\\", []lex.Line{{1, "a"}}},
		{"a\\\n", []lex.Line{{1, "a"}}},
		{"a \\", []lex.Line{{1, "a"}}},
		{"a\nb\\", []lex.Line{{1, "a"}, {2, "b"}}},
		{"a\nb\\\n", []lex.Line{{1, "a"}, {2, "b"}}},
		{"a\\\nb\\", []lex.Line{{1, "ab"}}},
		{"a\\\nb\\\n", []lex.Line{{1, "ab"}}},
	} {
		isLines(t, c.s, c.want)
	}
}

// LX1: what stands from the first `;` on is left out, when lines are one already.
func TestComments(t *testing.T) {
	for _, c := range []struct {
		s    string
		want []lex.Line
	}{
		{";", nil},
		{";a", nil},
		{" ;a\n;\n\t;;\nb", []lex.Line{{4, "b"}}},
		{"a;", []lex.Line{{1, "a"}}},
		{"a;b", []lex.Line{{1, "a"}}},
		{"a ;b", []lex.Line{{1, "a"}}},
		{"a \t; b\nc", []lex.Line{{1, "a"}, {2, "c"}}},
		{"a;b;c", []lex.Line{{1, "a"}}},
		{"a b;c;;d\ne", []lex.Line{{1, "a b"}, {2, "e"}}},
		{"a;;", []lex.Line{{1, "a"}}},
		{"a\";b\"", []lex.Line{{1, `a"`}}},

		// A comment goes on, as its line does.
		{"a;\\\nb\nc", []lex.Line{{1, "a"}, {3, "c"}}},
		{"a;x\\\nb\nc", []lex.Line{{1, "a"}, {3, "c"}}},
		{"a;x\\\nb\\\nc;d\ne", []lex.Line{{1, "a"}, {4, "e"}}},
		{";\\\nb\nc", []lex.Line{{3, "c"}}},
		{"a;x\\", []lex.Line{{1, "a"}}},
		{"a;x\\ \nb", []lex.Line{{1, "a"}, {2, "b"}}},
		{"a\\\n;b\nc", []lex.Line{{1, "a"}, {3, "c"}}},
		{"a \\\nb;c\nd", []lex.Line{{1, "a b"}, {3, "d"}}},
		{"a\\\nb\\\n c ; d\\\ne\nf", []lex.Line{{1, "ab c"}, {5, "f"}}},
	} {
		isLines(t, c.s, c.want)
	}
}

// LX1: a line is left out whose first byte that is no blank is `#`, when lines are one already.
func TestLinesOfComments(t *testing.T) {
	for _, c := range []struct {
		s    string
		want []lex.Line
	}{
		{"#", nil},
		{"#a", nil},
		{"##", nil},
		{"# a\nb\n#c\nd", []lex.Line{{2, "b"}, {4, "d"}}},
		{" #a\n\t#b\n\r#c\n \t\r # d\ne", []lex.Line{{5, "e"}}},
		{"#a;b\nc", []lex.Line{{2, "c"}}},

		// Behind other bytes it is one as any other.
		{"a#", []lex.Line{{1, "a#"}}},
		{"a#b", []lex.Line{{1, "a#b"}}},
		{"a # b", []lex.Line{{1, "a # b"}}},
		{"\x00#a\n\xa0#b\n\v#c", []lex.Line{{1, "\x00#a"}, {2, "\xa0#b"}, {3, "\v#c"}}},
		{"\\#", []lex.Line{{1, `\#`}}},
		{"a;#", []lex.Line{{1, "a"}}},
		{"a # b ; c", []lex.Line{{1, "a # b"}}},
		{";#\nb", []lex.Line{{2, "b"}}},
		{" ; # a\nb", []lex.Line{{2, "b"}}},

		// Where lines go on.
		{"a\\\n#b\nc", []lex.Line{{1, "a#b"}, {3, "c"}}},
		{"a\\\n #b\nc", []lex.Line{{1, "a #b"}, {3, "c"}}},
		{"#a\\\nb\nc", []lex.Line{{3, "c"}}},
		{"#a\\\nb\\\nc\nd", []lex.Line{{4, "d"}}},
		{"\\\n#a\nb", []lex.Line{{3, "b"}}},
		{" \\\n\t\\\n #a\nb", []lex.Line{{4, "b"}}},
		{"\\\n#a\\\nb\nc", []lex.Line{{4, "c"}}},
		{"a\\\n\n#b\nc", []lex.Line{{1, "a"}, {4, "c"}}},
		{";\\\n#a\nb", []lex.Line{{3, "b"}}},
		{"#\\", nil},
	} {
		isLines(t, c.s, c.want)
	}
}

// LX1: a text of MaxText bytes may be, one of more is too long as a whole, whatever its lines are.
func TestTextsOfTheMostBytes(t *testing.T) {
	for _, piece := range []string{"\n", " ", ";", "#", "\\", "\\\n", "a\n", "a\\\n\n", "#\xff\n", " ;\x00\n", "0123456\n", strings.Repeat("a", api.MaxLine-1) + "\n"} {
		s := strings.Repeat(piece, api.MaxText/len(piece)+1)[:api.MaxText]
		if piece == "\\" {
			s = strings.Repeat(" ", api.MaxText-1) + piece
		}
		isLines(t, s, plainLines(s))
		for _, behind := range []string{"\n", " ", "a", ";", "\\", "\x00", "ab", s} {
			isTooLong(t, s+behind, 0)
			isTooLong(t, behind+s, 0)
		}
	}
	for _, n := range []int{api.MaxText + 1, api.MaxText + 2, 2 * api.MaxText} {
		isTooLong(t, strings.Repeat("a", n), 0)
		isTooLong(t, "a\n"+strings.Repeat("b", n), 0)
	}
	isTooLong(t, strings.Repeat("a", api.MaxText), 1)
}

// LX1: as many bytes may be left of a line as MaxLine says, but not one more.
func TestLinesOfTheMostBytes(t *testing.T) {
	for _, x := range []string{"a", "\x00", "\xff", "ab", "a b", "é", `\a`, "a#"} {
		full := strings.Repeat(x, api.MaxLine)[:api.MaxLine-1] + "z"
		isLines(t, full, []lex.Line{{1, full}})
		isLines(t, full+"\n"+full+"\n\n"+full+"\n", []lex.Line{{1, full}, {2, full}, {4, full}})
		isTooLong(t, "y"+full, 1)
		isTooLong(t, full+"y\n", 1)
		isTooLong(t, full+full, 1)
		isTooLong(t, "a\n\n"+full+"y\nb", 3)
		isTooLong(t, full+"\n"+full+"\n"+full+" y", 3)
	}
}

// LX1: of a line that is made of several, all are counted, and the first one's number is told.
func TestLinesOfTheMostBytesThatGoOn(t *testing.T) {
	half := strings.Repeat("h", api.MaxLine/2)
	isLines(t, half+"\\\n"+half, []lex.Line{{1, half + half}})
	isLines(t, "a\n"+half+"\\\n"+half+"\\\n\nb", []lex.Line{{1, "a"}, {2, half + half}, {5, "b"}})
	isLines(t, half+half+"\\", []lex.Line{{1, half + half}})
	isLines(t, half+half+"\\\n\\\n\\\n", []lex.Line{{1, half + half}})
	isLines(t, half+"\n"+half+"\n"+half, []lex.Line{{1, half}, {2, half}, {3, half}})
	isTooLong(t, half+"\\\n"+half+"y", 1)
	isTooLong(t, half+" \\\n"+half, 1)
	isTooLong(t, half+half+"\\\\", 1)
	isTooLong(t, half+half+"\\\ny", 1)
	isTooLong(t, "a\n\n"+half+"\\\n\\\n"+half+"\\\ny\nb", 3)
	isTooLong(t, "a\\\nb\n"+half+half+"y", 3)

	long := strings.Repeat("c\\\n", api.MaxLine)
	isLines(t, long, []lex.Line{{1, strings.Repeat("c", api.MaxLine)}})
	isLines(t, "\n"+long+"\nd", []lex.Line{{2, strings.Repeat("c", api.MaxLine)}, {api.MaxLine + 3, "d"}})
	isTooLong(t, "\n"+long+"d", 2)
}

// LX1: what is left out is not counted, be it a comment or blanks at the ends.
func TestLinesOfWhichMuchIsLeftOut(t *testing.T) {
	full := strings.Repeat("f", api.MaxLine)
	many := strings.Repeat("m ", api.MaxLine)
	for _, blank := range []string{" ", "\t", "\r", strings.Repeat(" \t\r", api.MaxLine)} {
		isLines(t, blank+full+blank, []lex.Line{{1, full}})
		isLines(t, blank+full+blank+";"+many+"\n"+full, []lex.Line{{1, full}, {2, full}})
		isLines(t, blank+"#"+many+"\n"+full, []lex.Line{{2, full}})
		isLines(t, blank+";"+many+"\n"+full, []lex.Line{{2, full}})
		isLines(t, blank+"\\\n"+full+"\\\n"+blank+"\nb", []lex.Line{{1, full}, {4, "b"}})
		isTooLong(t, blank+"f"+full+blank, 1)
		isTooLong(t, "a\n"+blank+"f"+full+blank+";x", 2)
		isTooLong(t, blank+full+blank+"f;x", 1)
	}
	isLines(t, full+";\\\n"+full+"\nb", []lex.Line{{1, full}, {3, "b"}})
	isLines(t, "#\\\n"+full+full+"\nb", []lex.Line{{3, "b"}})
	isLines(t, full+"\\\n;"+many, []lex.Line{{1, full}})
	isTooLong(t, full+"\\\n#"+many, 1)
	isTooLong(t, full+"#", 1)
}

// LX1: of several lines that are too long, the first is told.
func TestFirstOfLinesThatAreTooLong(t *testing.T) {
	long := strings.Repeat("l", api.MaxLine+1)
	isTooLong(t, long+"\n"+long, 1)
	isTooLong(t, "a\n"+long+"\n"+long+"l\n", 2)
	isTooLong(t, "#"+long+"\n;"+long+"\n"+long+"l\nb\n"+long, 3)
	isTooLong(t, "a\\\nb\n\n"+long+"\\\n"+long+"\n"+long, 4)
	for n := range 9 {
		isTooLong(t, strings.Repeat("a\n", n)+long+"\n"+long, n+1)
		isTooLong(t, strings.Repeat("a\\\n", n)+"\n"+long+"\n"+long, n+2)
	}
}

// LX1: lines are what a plain look byte by byte finds, in all short texts, and in some long ones.
func TestLinesArePlain(t *testing.T) {
	everyText("a \\\n;#", 7, func(s string) { isLines(t, s, plainLines(s)) })
	everyText("\t\r\\\n;#\x00\xff", 5, func(s string) { isLines(t, s, plainLines(s)) })
	r := rand.New(rand.NewSource(8))
	for range 3000 {
		s := someText(r, r.Intn(60), "a", "b\xff", " ", "\t", "\r", "\\", "\\\n", "\n", "\n", ";", "#", "\u00a0", "\x00", "c d")
		isLines(t, s, plainLines(s))
	}
	for range 20 {
		s := someText(r, r.Intn(9000), "a", "bc", "de fg", " ", "\n", "\r\n", "\\\n", ";h", "\n#i", "\xff")
		isLines(t, s, plainLines(s))
	}
}

// LX2: texts without the blanks at their ends.
func TestTrim(t *testing.T) {
	for _, c := range []struct{ s, want string }{
		{"", ""},
		{" ", ""},
		{"\t", ""},
		{"\r", ""},
		{" \t\r\r\t ", ""},
		{"a", "a"},
		{" a", "a"},
		{"a ", "a"},
		{"\ta\r", "a"},
		{" \t\ra\r\t ", "a"},
		{"a b", "a b"},
		{"  a \t\r b\t", "a \t\r b"},
		{" ; # \\ ", `; # \`},
		{"no-blanks", "no-blanks"},
		{" \xff ", "\xff"},
		{"\u00e9 \u00e9 ", "\u00e9 \u00e9"},
	} {
		isTrim(t, c.s, c.want)
	}
	for _, other := range noBlanks {
		isTrim(t, other, other)
		isTrim(t, other+" ", other)
		isTrim(t, " "+other, other)
		isTrim(t, " "+other+"\t \r"+other+" ", other+"\t \r"+other)
		isTrim(t, other+" a "+other, other+" a "+other)
	}
}

// LX2: the parts of texts between blanks.
func TestWords(t *testing.T) {
	for _, c := range []struct {
		s    string
		want []string
	}{
		{"", nil},
		{" ", nil},
		{"\t", nil},
		{"\r", nil},
		{" \t\r\r\t ", nil},
		{"a", []string{"a"}},
		{" a", []string{"a"}},
		{"a\t", []string{"a"}},
		{"\r a \t", []string{"a"}},
		{"one-word;#\\", []string{`one-word;#\`}},
		{"a b", []string{"a", "b"}},
		{"a\tb", []string{"a", "b"}},
		{"a\rb", []string{"a", "b"}},
		{"  a \t\r b\t\tc d ", []string{"a", "b", "c", "d"}},
		{"b a b b", []string{"b", "a", "b", "b"}},
		{"\xff \xc3 \x28", []string{"\xff", "\xc3", "\x28"}},
		{"\u00e9\u00e9 \u00e9", []string{"\u00e9\u00e9", "\u00e9"}},
	} {
		isWords(t, c.s, c.want)
	}
	for _, other := range noBlanks {
		isWords(t, other, []string{other})
		isWords(t, "a"+other+"b", []string{"a" + other + "b"})
		isWords(t, " "+other+"\t"+other+"\r", []string{other, other})
	}
}

// LX2: of all bytes, three are blanks.
func TestBlanksAmongAllBytes(t *testing.T) {
	for x := range 256 {
		b := string([]byte{byte(x)})
		if strings.Contains(threeBlanks, b) {
			isTrim(t, b+"a"+b+"c"+b, "a"+b+"c")
			isWords(t, b+"a"+b+"c"+b, []string{"a", "c"})
		} else {
			isTrim(t, b+"a"+b+"c"+b, b+"a"+b+"c"+b)
			isWords(t, b+"a"+b+"c"+b, []string{b + "a" + b + "c" + b})
		}
	}
}

// LX2: many words, and long ones.
func TestManyWords(t *testing.T) {
	for _, n := range []int{31, 32, 33, 1000, api.MaxText} {
		for _, blank := range []string{" ", "\t\r"} {
			got := lex.Words(strings.Repeat("ab"+blank, n))
			if len(got) != n || len(slices.Compact(got)) != 1 || got[0] != "ab" {
				t.Errorf("%d words: %d", n, len(got))
			}
		}
		long := strings.Repeat("w", n)
		isWords(t, long, []string{long})
		isWords(t, strings.Repeat(" ", n), nil)
		isWords(t, long+strings.Repeat("\r", n)+long, []string{long, long})
		isTrim(t, strings.Repeat("\t", n)+long+strings.Repeat(" ", n), long)
	}
}

// LX2: both are what a plain look byte by byte finds, in all short texts, and in some long ones.
func TestTrimAndWordsArePlain(t *testing.T) {
	look := func(s string) {
		isTrim(t, s, plainTrim(s))
		isWords(t, s, plainWords(s))
	}
	everyText("a \t\r\n", 6, look)
	everyText(" b\x00\xa0\xc2\f", 5, look)
	r := rand.New(rand.NewSource(2))
	for range 3000 {
		look(someText(r, r.Intn(60), append(noBlanks, "a", "bc", " ", "  ", "\t", "\r", "\\", ";", "#")...))
	}
}

// ordinary is an ordinary line, or some that are made one.
func ordinary(r *rand.Rand) string {
	parts := []string{"define host {", "name a", "}", "contacts +b,c", "nth 5 -1 1 = 09:00-17:00", "a\\\nb", "use t\\\n, u\\\n\\\n,v", "x#y", "\xff\x00", `a\b`}
	return parts[r.Intn(len(parts))]
}

// apart are what lines say, and where.
func apart(l []lex.Line) (texts []string, numbers []int) {
	for _, line := range l {
		texts, numbers = append(texts, line.Text), append(numbers, line.At)
	}
	return texts, numbers
}

// LX3: blanks at lines' ends, comments and empty lines change only numbers.
func TestOnlyNumbersChange(t *testing.T) {
	r := rand.New(rand.NewSource(3))
	blanks := func() string { return someText(r, r.Intn(4), " ", "\t", "\r") }
	comment := func() string {
		return someText(r, r.Intn(2), ";", "; x", ";;", ";#", ";a;b", "; \\ y", ";\xff")
	}
	nothing := func() string {
		return someText(r, r.Intn(3), "\n", " \n", "\t\r\n", "# x\n", " #\n", "\t## a;b\n", ";\n", " ; x # y\n", "#\\ \n", "#\xff\n")
	}
	for range 2000 {
		var plain, decked strings.Builder
		var want []int
		for range r.Intn(12) {
			line := ordinary(r)
			plain.WriteString(line + "\n")
			decked.WriteString(nothing())
			want = append(want, strings.Count(decked.String(), "\n")+1)
			decked.WriteString(blanks() + line + blanks() + comment() + "\n")
		}
		decked.WriteString(nothing())
		same(t, plain.String(), decked.String(), want)
		same(t, plain.String(), strings.TrimSuffix(decked.String(), "\n"), want)
	}
}

// same asks whether both texts say the same, the second one at just these numbers.
func same(t *testing.T, plain, decked string, want []int) {
	t.Helper()
	l, at, err := lex.Lines(plain)
	m, where, wrong := lex.Lines(decked)
	if at != 0 || where != 0 || err != nil || wrong != nil {
		t.Fatalf("Lines: %d, %v, and %d, %v, of %q and %q", at, err, where, wrong, plain, decked)
	}
	texts, _ := apart(l)
	others, numbers := apart(m)
	if len(texts) != len(want) || !slices.Equal(texts, others) || !slices.Equal(numbers, want) {
		t.Fatalf("Lines(%q): %q at %d, not %q at %d", decked, others, numbers, texts, want)
	}
}

// LX3: what is left, told again line by line, is just that.
func TestWhatIsLeftStays(t *testing.T) {
	look := func(s string) {
		l, _, _ := lex.Lines(s)
		texts, _ := apart(l)
		// A `\` that has a blank or a comment behind it in the text would stand at the end here.
		again, _, err := lex.Lines(strings.Join(texts, " \n") + " ")
		if told, _ := apart(again); err != nil || !slices.Equal(told, texts) {
			t.Errorf("Lines(%q): %q, and then %q, %v", s, texts, told, err)
		}
	}
	everyText("a \\\n;#", 6, look)
}

// LX1, LX2: an answer is new memory: what is done to it, and to its spare room, is seen in no other one.
func TestAnswersShareNothing(t *testing.T) {
	for n := range 70 {
		s := strings.Repeat("a b\\\nc ;d\n", n)
		first, _, _ := lex.Lines(s)
		second, _, _ := lex.Lines(s)
		words, others := lex.Words(s), lex.Words(s)
		want, wantWords := slices.Clone(second), slices.Clone(others)
		for i := range first[:cap(first)] {
			first[:cap(first)][i] = lex.Line{At: -1, Text: "spoilt"}
		}
		for i := range words[:cap(words)] {
			words[:cap(words)][i] = "spoilt"
		}
		if !slices.Equal(second, want) || !slices.Equal(others, wantWords) {
			t.Errorf("%d lines: two answers share memory", n)
		}
		third, _, _ := lex.Lines(s)
		if !slices.Equal(third, want) || !slices.Equal(lex.Words(s), wantWords) {
			t.Errorf("%d lines: an answer is kept", n)
		}
	}
}

// LX1: an error is of its number alone, and hangs on nothing that was asked for before.
func TestErrorsAreKeptByNobody(t *testing.T) {
	long := strings.Repeat("l", api.MaxLine+1)
	for range 3 {
		isLines(t, "a\n", []lex.Line{{1, "a"}})
		isTooLong(t, "a\n"+long, 2)
		isTooLong(t, strings.Repeat("a\n", api.MaxText), 0)
		isLines(t, "", nil)
	}
}

// LX1, LX2: whatever text is there, its lines, words and ends are what a plain look finds.
func FuzzText(f *testing.F) {
	for _, s := range append(noBlanks, "a ;x\n# b\nc\\\nd", "\\\\\n\n#\r\n", strings.Repeat("a", api.MaxLine+1)) {
		f.Add(s)
	}
	f.Fuzz(func(t *testing.T, s string) {
		isTrim(t, s, plainTrim(s))
		isWords(t, s, plainWords(s))
		want := plainLines(s)
		long := slices.IndexFunc(want, func(l lex.Line) bool { return len(l.Text) > api.MaxLine })
		switch {
		case len(s) > api.MaxText:
			isTooLong(t, s, 0)
		case long >= 0:
			isTooLong(t, s, want[long].At)
		default:
			isLines(t, s, want)
		}
	})
}
