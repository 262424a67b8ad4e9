package block_test

import (
	"errors"
	"math/rand"
	"reflect"
	"slices"
	"strconv"
	"strings"
	"testing"

	"belvedere/api"
	"belvedere/block"
	"belvedere/lex"
)

const (
	mostFields = 64
	wordBytes  = "abcdefghijklmnopqrstuvwxyz0123456789_"
	nameBytes  = wordBytes + "ABCDEFGHIJKLMNOPQRSTUVWXYZ-."
	// longest is of as many bytes as a word, or a name, may have.
	longest = "abcdefghijklmnopqrstuvwxyz_01234"
)

// blanks are the three bytes that are one, and some together.
var blanks = []string{" ", "\t", "\r", "  ", "\t ", " \r\t "}

// noWords are neither words nor names, and have neither blanks nor what a line ends at.
var noWords = []string{"é", "ａ", "a\u00e9", "a\xff", "\x00", "a\x00", "a\u00a0b", "a,b", "a/b", "a+", "*", "a\vb", "a{", "}", "}x", "{", "a=b", "a:", `a\b`, longest + "x", longest + longest}

// namesAlone are names, but no words.
var namesAlone = []string{"A", "aB", "Define", "a-b", "-", ".", "a.b", "Z9", "1-2"}

// field is one at a line.
func field(at int, name, value string) block.Field {
	return block.Field{At: at, Name: name, Value: value}
}

// made is a block at a line.
func made(at int, kind string, fields ...block.Field) block.Block {
	return block.Block{At: at, Kind: kind, Fields: fields}
}

// plain is a block of fields whose names and values are given by turns.
func plain(kind string, namesAndValues ...string) block.Block {
	b := block.Block{Kind: kind}
	for i := 0; i < len(namesAndValues); i += 2 {
		b.Fields = append(b.Fields, field(0, namesAndValues[i], namesAndValues[i+1]))
	}
	return b
}

// list are blocks.
func list(l ...block.Block) []block.Block { return l }

// number is a name of its own for each number.
func number(i int) string { return "n" + strconv.Itoa(i) }

// lines are texts, each a line.
func lines(l ...string) string { return strings.Join(l, "\n") + "\n" }

// fieldLines are so many fields' lines.
func fieldLines(n int) string {
	var b strings.Builder
	for i := range n {
		b.WriteString(number(i) + "\n")
	}
	return b.String()
}

// blockLines are so many blocks' lines, two of each.
func blockLines(n int) string { return strings.Repeat("define a {\n}\n", n) }

// wide is a block of so many fields.
func wide(n int) block.Block {
	b := block.Block{Kind: "a"}
	for i := range n {
		b.Fields = append(b.Fields, field(0, number(i), ""))
	}
	return b
}

// many are so many blocks.
func many(n int) []block.Block {
	l := make([]block.Block, n)
	for i := range l {
		l[i].Kind = "a"
	}
	return l
}

// holds tells whether an error is just that number.
func holds(err error, want api.Errno) bool {
	var got api.Errno
	return errors.As(err, &got) && got == want
}

// sameBlock tells whether two blocks are the same; nil and no fields are.
func sameBlock(a, b block.Block) bool {
	return a.At == b.At && a.Kind == b.Kind && slices.Equal(a.Fields, b.Fields)
}

// same tells whether blocks are the same.
func same(a, b []block.Block) bool { return slices.EqualFunc(a, b, sameBlock) }

// isParsed asks for a text's blocks.
func isParsed(t *testing.T, s string, want ...block.Block) {
	t.Helper()
	if got, place, err := block.Parse(s); !same(got, want) || place != (api.Place{}) || err != nil {
		t.Errorf("Parse(%.80q), of %d bytes: %.400v, %v, %v, not %.400v", s, len(s), got, place, err, want)
	}
}

// isWrong asks for the place at which a text is wrong, and for nothing beside it.
func isWrong(t *testing.T, s string, line int, want api.Errno) {
	t.Helper()
	got, place, err := block.Parse(s)
	if len(got) != 0 || place != (api.Place{Line: line, Err: want}) || !holds(err, want) {
		t.Errorf("Parse(%.80q), of %d bytes: %d blocks, %v, %v, not error %d at %d", s, len(s), len(got), place, err, int(want), line)
	}
}

// isText asks for blocks' text.
func isText(t *testing.T, l []block.Block, want string) {
	t.Helper()
	if got, err := block.Text(l); got != want || err != nil {
		t.Errorf("Text(%.200v): %.200q, %v, not %.200q", l, got, err, want)
	}
}

// noText asks for an error of Text, and for nothing beside it.
func noText(t *testing.T, l []block.Block, want api.Errno) {
	t.Helper()
	if got, err := block.Text(l); got != "" || !holds(err, want) {
		t.Errorf("Text(%.200v), of %d blocks: %.80q, %v, not error %d", l, len(l), got, err, int(want))
	}
}

// isBlank tells whether a byte is a blank.
func isBlank(b byte) bool { return b == 32 || b == 9 || b == 13 }

// trim is a text without blanks at its ends, byte by byte.
func trim(s string) string {
	for s != "" && isBlank(s[0]) {
		s = s[1:]
	}
	for s != "" && isBlank(s[len(s)-1]) {
		s = s[:len(s)-1]
	}
	return s
}

// isOf tells whether a text is 1 to 32 bytes, all of them some of these.
func isOf(s, bytes string) bool {
	for i := range len(s) {
		if strings.IndexByte(bytes, s[i]) < 0 {
			return false
		}
	}
	return len(s) >= 1 && len(s) <= 32
}

// plainBegin is what is wrong with a line outside of blocks, and else the kind, by the words alone.
func plainBegin(line string, blocks int) (string, api.Errno) {
	if len(line) < 8 || line[:6] != "define" || !isBlank(line[6]) || line[len(line)-1] != '{' {
		return "", api.ErrForm
	}
	kind := trim(line[7 : len(line)-1])
	switch {
	case kind == "":
		return "", api.ErrForm
	case !isOf(kind, wordBytes):
		return "", api.ErrName
	case blocks >= 1024:
		return "", api.ErrFull
	}
	return kind, 0
}

// plainField is what is wrong with a line inside of a block, and else the field.
func plainField(line string, fields []block.Field) (block.Field, api.Errno) {
	end := 0
	for end < len(line) && !isBlank(line[end]) {
		end++
	}
	f := block.Field{Name: line[:end], Value: trim(line[end:])}
	switch {
	case f.Name == "define" && end < len(line):
		return block.Field{}, api.ErrForm
	case !isOf(f.Name, wordBytes):
		return block.Field{}, api.ErrName
	}
	for _, other := range fields {
		if other.Name == f.Name {
			return block.Field{}, api.ErrTwice
		}
	}
	if len(fields) >= 64 {
		return block.Field{}, api.ErrFull
	}
	return f, 0
}

// plainParse is Parse by the words alone.
func plainParse(s string) ([]block.Block, api.Place) {
	told, at, err := lex.Lines(s)
	if err != nil {
		return nil, api.Place{Line: at, Err: api.ErrLong}
	}
	var all []block.Block
	var open *block.Block
	for _, line := range told {
		if open == nil {
			kind, wrong := plainBegin(line.Text, len(all))
			if wrong != 0 {
				return nil, api.Place{Line: line.At, Err: wrong}
			}
			open = &block.Block{At: line.At, Kind: kind}
			continue
		}
		if line.Text == "}" {
			all = append(all, *open)
			open = nil
			continue
		}
		f, wrong := plainField(line.Text, open.Fields)
		if wrong != 0 {
			return nil, api.Place{Line: line.At, Err: wrong}
		}
		f.At = line.At
		open.Fields = append(open.Fields, f)
	}
	if open != nil {
		return nil, api.Place{Line: open.At, Err: api.ErrEnd}
	}
	return all, api.Place{}
}

// isPlain asks for just what the words alone give of a text.
func isPlain(t *testing.T, s string) {
	t.Helper()
	if want, place := plainParse(s); place.Err == 0 {
		isParsed(t, s, want...)
	} else {
		isWrong(t, s, place.Line, place.Err)
	}
}

// BK1: the chapter's example, and one with more.
func TestExample(t *testing.T) {
	isParsed(t, "define host {\n  name a\n}\n", made(1, "host", field(2, "name", "a")))
	isParsed(t, "define host {\n  name a\n}", made(1, "host", field(2, "name", "a")))
	isParsed(t, lines("# all hosts", "define host {", "  name a", "  use t ; a template", "}", "", "define service {", "  id ping", "  hosts a,b", "}"),
		made(2, "host", field(3, "name", "a"), field(4, "use", "t")),
		made(7, "service", field(8, "id", "ping"), field(9, "hosts", "a,b")))
}

// BK1: texts that say nothing.
func TestParseNothing(t *testing.T) {
	for _, s := range []string{"", "\n", "\n\n\n", " ", "\t\r\n ", ";", "#", "; x", "# x", " # define a {\n", ";define a {\n;}\n", "\\", "\\\n\\\n", " \\\n\t", "#\\\ndefine a {\n", strings.Repeat("\n", api.MaxText), strings.Repeat(" ", api.MaxText), "#" + strings.Repeat("x", api.MaxText-1)} {
		isParsed(t, s)
	}
}

// BK1: a text that is too long is so at line 0, whatever else is wrong.
func TestParseTextTooLong(t *testing.T) {
	for _, s := range []string{"", "define a {\n}\n", "define a {\n x 1\n}"} {
		rest := api.MaxText - len(s)
		want, _, _ := block.Parse(s)
		isParsed(t, s+strings.Repeat("\n", rest), want...)
		isWrong(t, s+strings.Repeat("\n", rest+1), 0, api.ErrLong)
		isWrong(t, s+strings.Repeat(" ", rest+1), 0, api.ErrLong)
		isWrong(t, s+strings.Repeat(" ", 2*api.MaxText), 0, api.ErrLong)
	}
	for _, s := range []string{"define", "define a {", "define A {", "define a {\nx\nx\n}", "}", blockLines(api.MaxObjects + 1), strings.Repeat("l", api.MaxLine+1)} {
		isWrong(t, s+strings.Repeat("\n", api.MaxText+1-len(s)), 0, api.ErrLong)
	}
}

// BK1: a line that is too long is told ahead of all other faults, where they ever stand.
func TestParseLineTooLong(t *testing.T) {
	long := "x " + strings.Repeat("l", api.MaxLine-2)
	isParsed(t, lines("define a {", long, "}"), made(1, "a", field(2, "x", long[2:])))
	isParsed(t, lines("define a {", " \t"+long+" ;"+long, "}"), made(1, "a", field(2, "x", long[2:])))
	isWrong(t, lines("define a {", long+"l", "}"), 2, api.ErrLong)
	isWrong(t, lines("define a {", "x 1", "x\\", " l"+long, "}"), 3, api.ErrLong)
	for _, faults := range []string{"b", "define", "define {", "define A {", "}", "define a {", "define a {\nX\n}", "define a {\nx\nx\n}", blockLines(api.MaxObjects + 1), "define a {\n" + fieldLines(mostFields+1) + "}"} {
		_, place, err := block.Parse(faults + "\n")
		if err == nil {
			t.Errorf("Parse(%.80q): no fault", faults)
		}
		isWrong(t, faults+"\n"+long, place.Line, place.Err)
		isWrong(t, faults+"\n"+long+"l", strings.Count(faults, "\n")+2, api.ErrLong)
		isWrong(t, long+"l\n"+faults, 1, api.ErrLong)
		isWrong(t, "\n"+long+"l\n"+faults+"\n"+long+"l", 2, api.ErrLong)
	}
}

// BK1: blocks with and without fields, one and many.
func TestParseBlocks(t *testing.T) {
	isParsed(t, "define a {\n}", made(1, "a"))
	isParsed(t, "\n\n  define a {\n\n\t}\n\n", made(3, "a"))
	isParsed(t, lines("define a {", "}", "define a {", "}"), made(1, "a"), made(3, "a"))
	isParsed(t, lines("define b {", "x 1", "}", "define a {", "x 2", "y 3", "}", "define b {", "x 1", "}"),
		made(1, "b", field(2, "x", "1")), made(4, "a", field(5, "x", "2"), field(6, "y", "3")), made(8, "b", field(9, "x", "1")))
	isParsed(t, lines("define a {", "z 1", "y 2", "x 3", "}"), made(1, "a", field(2, "z", "1"), field(3, "y", "2"), field(4, "x", "3")))
	for _, n := range []int{2, 31, 64, 65, 1000} {
		var want []block.Block
		for i := range n {
			want = append(want, made(2*i+1, "a"))
		}
		isParsed(t, blockLines(n), want...)
	}
}

// BK1: there may be MaxObjects blocks; one more is one too many where it begins.
func TestParseMostBlocks(t *testing.T) {
	var want []block.Block
	for i := range api.MaxObjects {
		want = append(want, made(2*i+1, "a"))
	}
	full, behind := blockLines(api.MaxObjects), 2*api.MaxObjects
	isParsed(t, full, want...)
	isParsed(t, full+"\n#define b {\n;}", want...)
	for _, more := range []string{"define b {", "define b {\n}", "define b {\nX\n}", "define b {\n}\n}", "define b {\ndefine c {\n"} {
		isWrong(t, full+more, behind+1, api.ErrFull)
		isWrong(t, full+"\n\n"+more, behind+3, api.ErrFull)
	}
	isWrong(t, full+"define B {\n}", behind+1, api.ErrName)
	isWrong(t, full+"define b c {\n}", behind+1, api.ErrName)
	isWrong(t, full+"define {\n}", behind+1, api.ErrForm)
	isWrong(t, full+"define b\n}", behind+1, api.ErrForm)
	isWrong(t, full+"}", behind+1, api.ErrForm)
	isWrong(t, "x\n"+full+"define b {", 1, api.ErrForm)
	isWrong(t, blockLines(api.MaxObjects-1)+"define b {", behind-1, api.ErrEnd)
}

// BK1: fields with a value and without one; blanks of each kind part and end them, and stay within.
func TestParseFields(t *testing.T) {
	isParsed(t, lines("define a {", "x", "y 1", "}"), made(1, "a", field(2, "x", ""), field(3, "y", "1")))
	for _, x := range blanks {
		for _, y := range blanks {
			isParsed(t, lines("define a {", x+"v"+y, x+"w"+y+"1"+x, "x"+x+"1"+y+"2", y+"y"+y+"1"+x+"2"+y+"3"+x, "}"),
				made(1, "a", field(2, "v", ""), field(3, "w", "1"), field(4, "x", "1"+y+"2"), field(5, "y", "1"+x+"2"+y+"3")))
			isParsed(t, lines("define a {"+y, x+"x"+y+";"+x+"1", "\\", x+"y"+y+"\\", x+"2"+y, y+"}"+x), made(1, "a", field(2, "x", ""), field(3, "y", "2")))
			isParsed(t, lines("define a {", "x"+x+"1\\", y+"2"+y+"\\", "3", "}"), made(1, "a", field(2, "x", "1"+y+"2"+y+"3")))
		}
	}
	for _, value := range []string{"{", "}", "{}", "a {", "} x", "#", "#x", "a # b", `a\b`, `\\a`, `\`, `a \ b`, `\ `, "define", "define a {", "a,b", "+b", "null", "0", "x", "é ü", "\xff", "\x00", "\xa0", "\u00a0", "a\vb", "\f", "=", "09:00-17:00"} {
		isParsed(t, lines("define a {", "x "+value+" ", "y\t"+value+"\r", "}"), made(1, "a", field(2, "x", trim(value)), field(3, "y", trim(value))))
	}
	isParsed(t, lines("define a {", "x a;b", "y ;b", "z a\\;b", "}"), made(1, "a", field(2, "x", "a"), field(3, "y", ""), field(4, "z", `a\`)))
	isParsed(t, lines("define a {", "x 1", "#x 2", ";x 3", " # x 4", "}"), made(1, "a", field(2, "x", "1")))
}

// BK1: each byte within a value stays, but for those at which a line ends.
func TestParseEveryByteInValues(t *testing.T) {
	for x := range 256 {
		b := string([]byte{byte(x)})
		if b == "\n" || b == ";" {
			continue
		}
		isParsed(t, lines("define a {", "x 1"+b+"2", "}"), made(1, "a", field(2, "x", "1"+b+"2")))
		ahead, behind := trim(b+"1"), trim("1"+b)
		if b == `\` {
			isParsed(t, lines("define a {", "x 1"+b, "2", "}"), made(1, "a", field(2, "x", "12")))
			behind = "1" + b
		}
		isParsed(t, lines("define a {", "x "+b+"1", "y 1"+b+" ", "}"), made(1, "a", field(2, "x", ahead), field(3, "y", behind)))
	}
}

// BK1: lines that go on count as one, and those behind them have their own numbers.
func TestParseNumbers(t *testing.T) {
	isParsed(t, lines("define\\", " a\\", " {", "x\\", "y\\", " 1\\", ",2", "z 3", "\\", "}\\", "", "define b {", "}"),
		made(1, "a", field(4, "xy", "1,2"), field(8, "z", "3")), made(12, "b"))
	isParsed(t, lines("def\\", "ine a {", "define\\", "", "}"), made(1, "a", field(3, "define", "")))
	isParsed(t, lines("", "# x\\", "y", "; z", "define a { ; b", "", "x 1", "#", "y 2", "}"), made(5, "a", field(7, "x", "1"), field(9, "y", "2")))
	isWrong(t, lines("define a {", "x 1\\", "2\\", "3", "y\\", "y Y", "X 1", "}"), 7, api.ErrName)
	isWrong(t, lines("define a {", "x\\", " 1\\", "", "y 1", "x 2", "}"), 6, api.ErrTwice)
	isWrong(t, lines("define a {", "x 1", "x\\", " 2\\", " 3", "}"), 3, api.ErrTwice)
	isWrong(t, lines("\\", "", "define a {", "define\\", " b {", "}"), 4, api.ErrForm)
	isWrong(t, lines("#", "\\", "\\", "defin", "define a {", "}"), 2, api.ErrForm)
	isWrong(t, lines("", "define a {", "}", "", "define\\", " b {", "x 1"), 5, api.ErrEnd)
}

// BK1: how blocks begin, and how they don't.
func TestParseBegins(t *testing.T) {
	for _, x := range blanks {
		for _, y := range append(blanks, "") {
			isParsed(t, x+"define"+x+"a"+y+"{"+y+"\n}", made(1, "a"))
			isWrong(t, "define"+x+y+"{\n}", 1, api.ErrForm)
			isWrong(t, "define"+x+"a"+x+"b"+y+"{\n}", 1, api.ErrName)
			isWrong(t, "define"+x+"{"+y+"{\n}", 1, api.ErrName)
		}
		isWrong(t, "define"+x+"\n}", 1, api.ErrForm)
		isWrong(t, "define"+x+"a\n}", 1, api.ErrForm)
		isWrong(t, "define"+x+"a"+x+"\n{\n}", 1, api.ErrForm)
	}
	for _, s := range []string{"define", "define {", "define{", "define  {", "definex a {", "define a", "define a {b", "define a{b", "define a { b", "define a {}", "define a { }", "definea {", "define_a {", "defin a {", "efine a {", "Define a {", "DEFINE a {", "x define a {", "xdefine a {", "de fine a {", "define\u00a0a {", "define\va {", "define\x00a {", "a {", "{", "a", "}", "} x", "}{", "name a", "\x00", "\xff", "\ufeffdefine a {"} {
		isWrong(t, s, 1, api.ErrForm)
		isWrong(t, s+"\n}\n", 1, api.ErrForm)
		isWrong(t, s+"\n}\ndefine a {", 1, api.ErrForm)
		isWrong(t, "define b {\nx 1\n}\n\n"+s, 5, api.ErrForm)
	}
	for _, kind := range []string{"a", "host", "timeperiod", "define", "0", "_", "9z_", "__", longest, longest[1:]} {
		isParsed(t, "define "+kind+" {\n}", made(1, kind))
		isParsed(t, "define "+kind+"{\n}", made(1, kind))
	}
	for _, kind := range slices.Concat(noWords, namesAlone, []string{"a b", "a\tb", "a\rb", "define a", "a {", "{ {", "}", "a}", "A", "HOST", "hosT"}) {
		isWrong(t, "define "+kind+" {\n}", 1, api.ErrName)
		isWrong(t, "define "+kind+"{", 1, api.ErrName)
		isWrong(t, "define a {\nx 1\n}\ndefine "+kind+" {\n}", 4, api.ErrName)
	}
}

// BK1: each byte in a kind, and in a field's name: only those of words may be there.
func TestParseEveryByteInWords(t *testing.T) {
	for x := range 256 {
		b := string([]byte{byte(x)})
		for _, word := range []string{b, b + "yz", "y" + b + "z", "yz" + b, b + longest[1:], longest[1:] + b} {
			if strings.Contains(wordBytes, b) {
				isParsed(t, "define "+word+" {\n"+word+" 1\n}", made(1, word, field(2, word, "1")))
				continue
			}
			isPlain(t, "define "+word+" {\n}")
			isPlain(t, "define a {\n"+word+"\n}")
			isPlain(t, "define a {\n"+word+" 1\n}")
			if !strings.Contains("\n;#\\", b) && !isBlank(b[0]) && word != "}" {
				isWrong(t, "define "+word+" {\n}", 1, api.ErrName)
				isWrong(t, "define a {\n"+word+"\n}", 2, api.ErrName)
				isWrong(t, "define a {\n"+word+" 1\n}", 2, api.ErrName)
			}
		}
	}
	isWrong(t, "define a#b {\n}", 1, api.ErrName)
	isWrong(t, "define a {\nx#y 1\n}", 2, api.ErrName)
	isWrong(t, `define a\b {`+"\n}", 1, api.ErrName)
	isWrong(t, "define a {\n"+`x\y 1`+"\n}", 2, api.ErrName)
	isWrong(t, "define x\ny {\n}", 1, api.ErrForm)
	isWrong(t, "define x;y {\n}", 1, api.ErrForm)
}

// BK1: fields' names, and what is none inside of a block.
func TestParseNames(t *testing.T) {
	for _, name := range []string{"a", "0", "_", "name", "entry_1", "definex", "define_", "defin", "xdefine", longest, longest[1:]} {
		isParsed(t, "define a {\n"+name+" 1\n}", made(1, "a", field(2, name, "1")))
		isParsed(t, "define a {\n"+name+"\n}", made(1, "a", field(2, name, "")))
	}
	for _, name := range slices.Concat(noWords, namesAlone, []string{"define{", "}}", "{}", "x{", "a}"}) {
		if name == "}" {
			continue
		}
		isWrong(t, "define a {\n"+name+" 1\n}", 2, api.ErrName)
		isWrong(t, "define a {\n\ny 1\n"+name+"\n}", 4, api.ErrName)
		isWrong(t, "define b {\n}\ndefine a {\n"+name+"\t1", 4, api.ErrName)
	}
	for _, s := range []string{"} x", "}x", "}\tx", "} }", "}}", "}#", "} #", "x} 1", "{", "{ x"} {
		isWrong(t, "define a {\n"+s+"\n}", 2, api.ErrName)
	}
	isParsed(t, "define a {\n} ; x\n", made(1, "a"))
	isParsed(t, "define a {\n};x\n", made(1, "a"))
	isParsed(t, "define a {\nx }\n}", made(1, "a", field(2, "x", "}")))
}

// BK1: define inside of a block is a field alone, and wrong with a blank behind it, whatever comes then.
func TestParseDefineInside(t *testing.T) {
	isParsed(t, "define a {\ndefine\n}", made(1, "a", field(2, "define", "")))
	isParsed(t, "define a {\nx 1\n define \t\r\n}", made(1, "a", field(2, "x", "1"), field(3, "define", "")))
	isParsed(t, "define a {\ndefine ;b {\n}", made(1, "a", field(2, "define", "")))
	isWrong(t, "define a {\ndefine\nx\ndefine\n}", 4, api.ErrTwice)
	for _, blank := range blanks {
		for _, behind := range []string{"b {", "b", "{", "}", "1", "A {", "#", "define", "b {\n}\n}"} {
			isWrong(t, "define a {\ndefine"+blank+behind, 2, api.ErrForm)
			isWrong(t, "define a {\ndefine"+blank+behind+"\n}", 2, api.ErrForm)
			isWrong(t, "define a {\ndefine\n\ndefine"+blank+behind+"\n}", 4, api.ErrForm)
			isWrong(t, "define a {\n}\ndefine a {\n  define"+blank+behind, 4, api.ErrForm)
		}
	}
}

// BK1: a block has a name but once; another block may have it too.
func TestParseTwice(t *testing.T) {
	isWrong(t, "define a {\nx 1\nx 2\n}", 3, api.ErrTwice)
	isWrong(t, "define a {\nx 1\nx 1\n}", 3, api.ErrTwice)
	isWrong(t, "define a {\nx\nx\n}", 3, api.ErrTwice)
	isWrong(t, "define a {\nx\ny\n\nz\nx 1\nx 2\n}", 6, api.ErrTwice)
	isWrong(t, "define a {\nx\ny\nz\nz\nx\n}", 5, api.ErrTwice)
	isWrong(t, "define b {\nx\n}\ndefine a {\ny\ny\n}", 6, api.ErrTwice)
	isParsed(t, "define a {\nx 1\n}\ndefine a {\nx 1\n}", made(1, "a", field(2, "x", "1")), made(4, "a", field(5, "x", "1")))
	isParsed(t, "define x {\nx\ny x\nxx\n}", made(1, "x", field(2, "x", ""), field(3, "y", "x"), field(4, "xx", "")))
}

// BK1: a block may have 64 fields; the next one's faults stand in their order.
func TestParseMostFields(t *testing.T) {
	full := "define a {\n" + fieldLines(mostFields)
	var fields []block.Field
	for i := range mostFields {
		fields = append(fields, field(i+2, number(i), ""))
	}
	isParsed(t, full+"}", made(1, "a", fields...))
	isParsed(t, full+"}\ndefine b {\nx\n}", made(1, "a", fields...), made(67, "b", field(68, "x", "")))
	for _, more := range []string{"x", "x 1", "x\n}", "x 1\nX", "define", "define\n}", "x\nn0", "n64"} {
		isWrong(t, full+more, 66, api.ErrFull)
		isWrong(t, "define b {\n}\n"+full+"\n"+more, 69, api.ErrFull)
	}
	for i := range mostFields {
		isWrong(t, full+number(i)+" 1\n}", 66, api.ErrTwice)
	}
	for _, more := range []string{"X", "X 1", "}x", "} n0", "n-0", longest + "x"} {
		isWrong(t, full+more+"\n}", 66, api.ErrName)
	}
	for _, more := range []string{"define b {", "define 1", "define\tb", "define X"} {
		isWrong(t, full+more+"\n}", 66, api.ErrForm)
	}
	isWrong(t, full, 1, api.ErrEnd)
	isWrong(t, "define a {\n"+fieldLines(mostFields-1)+"n1\n}", 65, api.ErrTwice)
}

// BK1: a block without an end is wrong where it begins, if no line is.
func TestParseWithoutEnd(t *testing.T) {
	isWrong(t, "define a {", 1, api.ErrEnd)
	isWrong(t, "define a {\n", 1, api.ErrEnd)
	isWrong(t, "\n\n define a{\n\n# }\n;}\n", 3, api.ErrEnd)
	isWrong(t, "define a {\nx 1\ny }\n", 1, api.ErrEnd)
	isWrong(t, "define a {\nx \\\n}\n", 1, api.ErrEnd)
	isWrong(t, "define a {\n}\ndefine b {\nx 1\n}\n\ndefine c {\nx 1\n", 7, api.ErrEnd)
	isWrong(t, "define a {\n}\ndefine b {", 3, api.ErrEnd)
	isWrong(t, blockLines(1000)+"define a {", 2001, api.ErrEnd)
	isWrong(t, "define a {\nx 1\nX 1\n", 3, api.ErrName)
	isWrong(t, "define a {\ndefine b {\n}\n", 2, api.ErrForm)
	isWrong(t, "define a {\nx\nx\n", 3, api.ErrTwice)
}

// BK1: of two faults the one of the first line is told.
func TestParseFirstFault(t *testing.T) {
	faults := []struct {
		s    string
		line int
		want api.Errno
	}{
		{"defin\n", 1, api.ErrForm},
		{"}\n", 1, api.ErrForm},
		{"define A {\n}\n", 1, api.ErrName},
		{"define a {\ndefine b {\n}\n", 2, api.ErrForm},
		{"define a {\nx 1\nX\n}\n", 3, api.ErrName},
		{"define a {\nx 1\n\nx\n}\n", 4, api.ErrTwice},
		{"define a {\n" + fieldLines(mostFields+1) + "}\n", mostFields + 2, api.ErrFull},
		{blockLines(api.MaxObjects + 1), 2*api.MaxObjects + 1, api.ErrFull},
	}
	for _, first := range faults {
		isWrong(t, first.s, first.line, first.want)
		for _, second := range faults {
			isWrong(t, first.s+second.s, first.line, first.want)
			isWrong(t, "# c\n\n ; d\n"+first.s+second.s, first.line+3, first.want)
		}
		isWrong(t, first.s+"define a {\n", first.line, first.want)
	}
}

// BK1: whatever lines are there, what is answered is what the words alone give.
func TestParseIsPlain(t *testing.T) {
	r := rand.New(rand.NewSource(9))
	pieces := []string{"define a {", "define a {", "define b{", "}", "}", "x 1", "y", "x", "z\t2 \\", "  w 3 ; c", "define", "define c", "define {", "X 1", "a b {", "# d", "", "\\", "\xff", "} x"}
	for range 20000 {
		var l []string
		for range r.Intn(9) {
			l = append(l, pieces[r.Intn(len(pieces))])
		}
		isPlain(t, strings.Join(l, "\n"))
	}
	for range 20000 {
		var b strings.Builder
		b.WriteString("define a {\n")
		for range r.Intn(16) {
			b.WriteByte("ab {}\n\n\t\r\\;#D_define "[r.Intn(21)])
		}
		isPlain(t, b.String())
		isPlain(t, b.String()+"\n}")
	}
}

// BK2: ordinary blocks, told byte by byte.
func TestText(t *testing.T) {
	isText(t, nil, "")
	isText(t, list(), "")
	isText(t, list(plain("host", "name", "a")), "define host {\n  name a\n}\n")
	isText(t, list(plain("a")), "define a {\n}\n")
	isText(t, list(plain("a", "x", "", "y", "1")), "define a {\n  x\n  y 1\n}\n")
	isText(t, list(plain("b", "z", "1 2", "x", "3"), plain("a"), plain("b", "z", "1 2")), "define b {\n  z 1 2\n  x 3\n}\ndefine a {\n}\ndefine b {\n  z 1 2\n}\n")
	isText(t, list(plain("define", "definex", "define", "defin", "define a {")), "define define {\n  definex define\n  defin define a {\n}\n")
	isText(t, list(plain(longest, longest, longest)), "define "+longest+" {\n  "+longest+" "+longest+"\n}\n")
}

// BK2: what At holds is not asked for.
func TestTextWithoutNumbers(t *testing.T) {
	for _, at := range []int{0, 1, -1, 1 << 62, -1 << 63} {
		isText(t, list(made(at, "a", field(at, "x", "1"), field(7, "y", "")), made(7, "b")), "define a {\n  x 1\n  y\n}\ndefine b {\n}\n")
		noText(t, list(made(at, "a", field(at, "x", "1"), field(at+1, "x", "1"))), api.ErrTwice)
	}
}

// BK2: kinds and names that are no words.
func TestTextOfNoWords(t *testing.T) {
	for _, word := range slices.Concat(noWords, namesAlone, blanks, []string{"", " a", "a ", "a b", "a\tb", "a\n", "\na", "a;", ";", "#", "#a", "a\\", "HOST"}) {
		noText(t, list(plain(word)), api.ErrName)
		noText(t, list(plain("a", word, "")), api.ErrName)
		noText(t, list(plain("a", "x", "1", word, "1")), api.ErrName)
		noText(t, list(plain("a", "x", "1"), plain("b"), plain(word, "x", "1")), api.ErrName)
		noText(t, list(plain("a", "x", "1"), plain("b", "y", "", word, "1", "z", "")), api.ErrName)
	}
	for x := range 256 {
		b := string([]byte{byte(x)})
		for _, word := range []string{b, b + "yz", "y" + b + "z", "yz" + b} {
			if strings.Contains(wordBytes, b) {
				isText(t, list(plain(word, word, "1")), "define "+word+" {\n  "+word+" 1\n}\n")
			} else {
				noText(t, list(plain(word)), api.ErrName)
				noText(t, list(plain("a", word, "1")), api.ErrName)
			}
		}
	}
}

// BK2: values that would be read as something else, and those that only look so.
func TestTextOfValues(t *testing.T) {
	bad := []string{"\n", "a\n", "\na", "a\nb", "a\n}\n", ";", "a;", ";a", "a;b", "a ;b", `\`, `a\`, `a \`, `\\`, `a\b\`, "a\\\n"}
	good := []string{"", "a", "{", "}", "} x", "#", "#a", "a # b", `\a`, `a\b`, `a \ b`, `\\a`, "define", "define a {", "a\vb", "\v", "\f", "\x00", "\xff", "\xa0", "\u00a0", "\u2028", "\u0085", "é", "=", "+"}
	for _, blank := range blanks {
		bad = append(bad, blank, blank+"a", "a"+blank, blank+"a"+blank, `a\`+blank)
		good = append(good, "a"+blank+"b", "a"+blank+"#b", `a\`+blank+"b", "a"+blank+"b"+blank+"c")
	}
	for _, value := range bad {
		noText(t, list(plain("a", "x", value)), api.ErrForm)
		noText(t, list(plain("a"), plain("b", "x", "1", "y", value, "z", "2"), plain("c")), api.ErrForm)
	}
	for _, value := range good[1:] {
		isText(t, list(plain("a", "x", value, "y", value)), "define a {\n  x "+value+"\n  y "+value+"\n}\n")
	}
	for x := range 256 {
		b := string([]byte{byte(x)})
		for _, value := range []string{b, b + "1", "1" + b, "1" + b + "2"} {
			if strings.ContainsAny(value, "\n;") || trim(value) != value || strings.HasSuffix(value, `\`) {
				noText(t, list(plain("a", "x", value)), api.ErrForm)
			} else {
				isText(t, list(plain("a", "x", value)), "define a {\n  x "+value+"\n}\n")
			}
		}
	}
	for _, value := range []string{"", "1", "a {", ";"} {
		noText(t, list(plain("a", "define", value)), api.ErrForm)
		noText(t, list(plain("b"), plain("a", "x", "", "define", value)), api.ErrForm)
	}
}

// BK2: a block has a name but once; another block may have it too.
func TestTextTwice(t *testing.T) {
	noText(t, list(plain("a", "x", "1", "x", "2")), api.ErrTwice)
	noText(t, list(plain("a", "x", "", "x", "")), api.ErrTwice)
	noText(t, list(plain("a", "x", "1", "y", "2", "z", "3", "x", "1")), api.ErrTwice)
	noText(t, list(plain("a", "x", "1"), plain("b", "x", "1", "y", "2", "y", "3")), api.ErrTwice)
	isText(t, list(plain("x", "x", "1", "y", "1", "xx", "1"), plain("x", "x", "1")), "define x {\n  x 1\n  y 1\n  xx 1\n}\ndefine x {\n  x 1\n}\n")
}

// BK2: as many blocks, and fields, as there may be, and one more.
func TestTextFull(t *testing.T) {
	isText(t, many(api.MaxObjects), blockLines(api.MaxObjects))
	noText(t, many(api.MaxObjects+1), api.ErrFull)
	noText(t, many(1<<16), api.ErrFull)
	told, err := block.Text(list(wide(mostFields), wide(mostFields)))
	if want := "define a {\n  " + strings.ReplaceAll(strings.TrimSpace(fieldLines(mostFields)), "\n", "\n  ") + "\n}\n"; told != want+want || err != nil {
		t.Errorf("Text of %d fields: %q, %v", mostFields, told, err)
	}
	noText(t, list(wide(mostFields+1)), api.ErrFull)
	noText(t, list(plain("a"), wide(mostFields), wide(mostFields+1)), api.ErrFull)
	noText(t, list(wide(1<<12)), api.ErrFull)
	noText(t, append(many(api.MaxObjects), wide(mostFields+1)), api.ErrFull)
}

// filled are blocks whose text has just so many bytes, and whose lines are not too long.
func filled(n int) []block.Block {
	const frame, line = len("define a {\n}\n"), len("  n00 ") + len("\n")
	b := plain("a")
	for left := n - frame; left > 0; {
		value := min(left-line, 4000)
		// What is left must have room for a line more, or be nothing.
		if rest := left - line - value; rest > 0 && rest <= line {
			value -= line
		}
		b.Fields = append(b.Fields, field(0, "n"+strconv.Itoa(10+len(b.Fields)), strings.Repeat("v", value)))
		left -= line + value
	}
	return list(b)
}

// BK2: a text of just MaxText bytes is none too long, with one byte more it is; so with lines, their two blanks apart.
func TestTextLong(t *testing.T) {
	for n := api.MaxText - 20; n <= api.MaxText; n++ {
		told, err := block.Text(filled(n))
		if len(told) != n || err != nil {
			t.Errorf("Text of %d bytes: %d, %v", n, len(told), err)
		}
	}
	for _, n := range []int{api.MaxText + 1, api.MaxText + 2, api.MaxText + 5000, 2 * api.MaxText} {
		noText(t, filled(n), api.ErrLong)
	}
	frame := len("define a {\n}\n")
	noText(t, append(filled(api.MaxText-frame+1), plain("a")), api.ErrLong)
	if told, err := block.Text(append(filled(api.MaxText-frame), plain("a"))); len(told) != api.MaxText || err != nil {
		t.Errorf("Text of two blocks: %d bytes, %v", len(told), err)
	}
	for _, name := range []string{"x", longest} {
		for _, n := range []int{-1, 0, 1, 2, 3, 1 << 16} {
			value := strings.Repeat("v", api.MaxLine-len(name)-1+n)
			for _, l := range [][]block.Block{list(plain("a", name, value)), list(plain("b"), plain("a", "y", "", name, value, "z", ""), plain("c"))} {
				if n > 0 {
					noText(t, l, api.ErrLong)
				} else if told, err := block.Text(l); !strings.Contains(told, "\n  "+name+" "+value+"\n") || err != nil {
					t.Errorf("Text with a line of %d bytes: %d bytes, %v", api.MaxLine+n, len(told), err)
				}
			}
		}
	}
	// Much of everything there may be.
	var l []block.Block
	for range api.MaxObjects {
		l = append(l, wide(mostFields))
	}
	noText(t, l, api.ErrLong)
}

// faulty are fields in which something is wrong, in the order in which it is told.
var faulty = []struct {
	err    api.Errno
	fields func() []block.Field
}{
	{api.ErrName, func() []block.Field { return []block.Field{field(0, "No", "1")} }},
	{api.ErrForm, func() []block.Field { return []block.Field{field(0, "form", "a;b")} }},
	{api.ErrTwice, func() []block.Field { return []block.Field{field(0, "twice", "1"), field(0, "twice", "1")} }},
	{api.ErrFull, func() []block.Field { return wide(mostFields + 1).Fields }},
	{api.ErrLong, func() []block.Field { return []block.Field{field(0, "long", strings.Repeat("v", api.MaxLine))} }},
}

// BK2: of some faults, in one block or each in its own, the one that the order names first is told.
func TestTextOrder(t *testing.T) {
	for faults := 1; faults < 1<<len(faulty); faults++ {
		var together, turned block.Block
		var each, back []block.Block
		var want api.Errno
		together.Kind, turned.Kind = "a", "a"
		for i, f := range faulty {
			if faults>>i&1 == 0 {
				continue
			}
			if want == 0 {
				want = f.err
			}
			together.Fields = append(together.Fields, f.fields()...)
			turned.Fields = append(f.fields(), turned.Fields...)
			each = append(each, block.Block{Kind: "a", Fields: f.fields()})
			back = append(list(block.Block{Kind: "b", Fields: f.fields()}), back...)
		}
		noText(t, list(together), want)
		noText(t, list(turned), want)
		noText(t, each, want)
		noText(t, back, want)
		noText(t, slices.Concat(list(plain("a")), back, each, list(turned)), want)
	}
}

// BK2: the order of other faults: of a kind, of a field that is called define, of many blocks, of a text that is long.
func TestTextOrderOfOthers(t *testing.T) {
	noText(t, append(many(api.MaxObjects+1), plain("A")), api.ErrName)
	noText(t, append(many(api.MaxObjects+1), plain("a", "x", " ")), api.ErrForm)
	noText(t, append(many(api.MaxObjects+1), plain("a", "define", "")), api.ErrForm)
	noText(t, append(many(api.MaxObjects+1), plain("a", "x", "", "x", "")), api.ErrTwice)
	noText(t, append(many(api.MaxObjects+1), filled(api.MaxText+1)...), api.ErrFull)
	noText(t, append(filled(api.MaxText+1), many(api.MaxObjects)...), api.ErrFull)
	noText(t, append(filled(api.MaxText+1), wide(mostFields+1)), api.ErrFull)
	noText(t, append(filled(api.MaxText+1), plain("a", "x", "", "x", "")), api.ErrTwice)
	noText(t, append(filled(api.MaxText+1), plain("a", "x", "\n")), api.ErrForm)
	noText(t, append(filled(api.MaxText+1), plain("")), api.ErrName)
	noText(t, list(plain("a", "define", "", "define", "")), api.ErrForm)
	noText(t, list(plain("a", "define", "", "X", "")), api.ErrName)
	noText(t, list(plain("a", "X", "", "X", "")), api.ErrName)
	noText(t, list(plain("a", "x", "1", "x", "a\\")), api.ErrForm)
	noText(t, list(plain("a", "define", ""), plain("A")), api.ErrName)
	noText(t, list(plain("a", "x", strings.Repeat("v", api.MaxLine)+" ")), api.ErrForm)
	noText(t, list(plain("a", longest+longest, "\n")), api.ErrName)
}

// isGot asks for the value of a block's field.
func isGot(t *testing.T, b block.Block, name, want string, there bool) {
	t.Helper()
	if got, is := b.Get(name); got != want || is != there {
		t.Errorf("Get(%q) of %v: %q, %v, not %q, %v", name, b, got, is, want, there)
	}
}

// BK3: the value of a field, and whether there is one.
func TestGet(t *testing.T) {
	b := plain("host", "name", "a", "use", "", "x", "1 2", "twice", "first", "other", "", "twice", "second", "none", "", "none", "late")
	isGot(t, b, "name", "a", true)
	isGot(t, b, "use", "", true)
	isGot(t, b, "x", "1 2", true)
	isGot(t, b, "twice", "first", true)
	isGot(t, b, "none", "", true)
	for _, name := range []string{"", "y", "nam", "names", "Name", " name", "name ", "host", "a", "1 2", "second", "\x00", longest + "x"} {
		isGot(t, b, name, "", false)
		isGot(t, block.Block{}, name, "", false)
		isGot(t, plain("host"), name, "", false)
	}
	isGot(t, plain("", "", "nothing"), "", "nothing", true)
	isGot(t, plain("", "A B;", "odd\n"), "A B;", "odd\n", true)
	for i := range mostFields {
		isGot(t, wide(mostFields), number(i), "", true)
	}
	isGot(t, wide(mostFields), number(mostFields), "", false)
	l, _, err := block.Parse("define a {\nx\ny 1\ndefine\n}\n")
	if len(l) != 1 || err != nil {
		t.Fatalf("Parse: %v, %v", l, err)
	}
	isGot(t, l[0], "x", "", true)
	isGot(t, l[0], "y", "1", true)
	isGot(t, l[0], "define", "", true)
	isGot(t, l[0], "z", "", false)
}

// BK3: what is a name.
func TestName(t *testing.T) {
	is := func(s string, want bool) {
		t.Helper()
		if block.Name(s) != want {
			t.Errorf("Name(%q): %v", s, !want)
		}
	}
	for _, s := range slices.Concat(namesAlone, []string{"a", "host", "a_b", "A-b.C_9", "define", "null", "--", "..", "-1", longest, longest[1:], strings.ToUpper(longest), nameBytes[:32], nameBytes[33:]}) {
		is(s, true)
	}
	for _, s := range slices.Concat(noWords, blanks, []string{"", " a", "a ", "a b", "a\n", ";", "a#b", "a;b"}) {
		is(s, false)
	}
	for n := range 100 {
		is(strings.Repeat("A", n), n >= 1 && n <= api.MaxName)
		is(strings.Repeat("é", n), false)
	}
	is(strings.Repeat("a", 1<<20), false)
	for x := range 256 {
		b := string([]byte{byte(x)})
		may := strings.Contains(nameBytes, b)
		for _, s := range []string{b, b + "a", "a" + b, "A" + b + "9", b + b, longest[1:] + b, b + longest[1:]} {
			is(s, may)
		}
		is(longest+b, false)
		is(b+longest, false)
	}
	for x := range 1 << 16 {
		b := []byte{byte(x >> 8), byte(x)}
		is(string(b), strings.IndexByte(nameBytes, b[0]) >= 0 && strings.IndexByte(nameBytes, b[1]) >= 0)
	}
}

// alike tells whether blocks have the same kinds, names and values, wherever they stand.
func alike(a, b []block.Block) bool {
	return slices.EqualFunc(a, b, func(x, y block.Block) bool {
		return x.Kind == y.Kind && slices.EqualFunc(x.Fields, y.Fields, func(f, g block.Field) bool { return f.Name == g.Name && f.Value == g.Value })
	})
}

// isBack asks whether blocks, told and read, are the same again, and told again the same text.
func isBack(t *testing.T, l []block.Block) {
	t.Helper()
	told, err := block.Text(l)
	if err != nil {
		t.Errorf("Text(%.200v): %v", l, err)
		return
	}
	got, place, err := block.Parse(told)
	if !alike(got, l) || place != (api.Place{}) || err != nil {
		t.Errorf("Parse(%.200q): %.200v, %v, %v, not %.200v", told, got, place, err, l)
	}
	line := 1
	for _, b := range got {
		if b.At != line {
			t.Errorf("Parse(%.200q): block at %d, not %d", told, b.At, line)
		}
		for _, f := range b.Fields {
			line++
			if f.At != line {
				t.Errorf("Parse(%.200q): field at %d, not %d", told, f.At, line)
			}
		}
		line += 2
	}
	if again, err := block.Text(got); again != told || err != nil {
		t.Errorf("Text of Parse(%.200q): %.200q, %v", told, again, err)
	}
}

// some is one of these.
func some[T any](r *rand.Rand, of ...T) T { return of[r.Intn(len(of))] }

// someBlocks are ordinary blocks.
func someBlocks(r *rand.Rand) []block.Block {
	values := []string{"", "a", "1", "a,b", "+b,c", "a b\tc", "{", "}", "#a", `a\b`, "null", "nth 5 -1 1 = 09:00-17:00", "é", "\xff", "\x00", "define a {", "a\rb", "=\v="}
	var l []block.Block
	for range r.Intn(6) {
		b := block.Block{At: r.Intn(9) - 4, Kind: some(r, "host", "service", "a", "define", "_9", longest)}
		for i := range r.Intn(8) {
			b.Fields = append(b.Fields, field(r.Intn(9)-4, some(r, "name", "use", "x", "y_", "0")+strconv.Itoa(i), some(r, values...)))
		}
		l = append(l, b)
	}
	return l
}

// BK4: Parse of Text has the same kinds, names and values.
func TestThereAndBack(t *testing.T) {
	isBack(t, nil)
	isBack(t, many(api.MaxObjects))
	isBack(t, list(wide(mostFields), wide(mostFields-1)))
	isBack(t, filled(api.MaxText))
	for _, name := range []string{"x", longest} {
		isBack(t, list(plain("a", name, strings.Repeat("v", api.MaxLine-len(name)-1))))
	}
	for x := range 256 {
		value := "1" + string([]byte{byte(x)}) + "2"
		if x != '\n' && x != ';' {
			isBack(t, list(plain("a", "x", value, "y", value)))
		}
	}
	r := rand.New(rand.NewSource(4))
	for range 3000 {
		isBack(t, someBlocks(r))
	}
}

// BK4: what was read and told is read as the same.
func TestReadToldRead(t *testing.T) {
	r := rand.New(rand.NewSource(5))
	for range 3000 {
		var b strings.Builder
		var want []block.Block
		for _, x := range someBlocks(r) {
			b.WriteString(some(r, "", "\n", "# x\n", " ;\n") + "define" + some(r, blanks...) + x.Kind + some(r, blanks...) + "{" + some(r, "", " ", " ;x") + "\n")
			for _, f := range x.Fields {
				b.WriteString(some(r, "", "\n", " #\n") + some(r, blanks...) + f.Name + some(r, " ", "\t", "\\\n ") + some(r, blanks...) + f.Value + some(r, "", "\r", " ;x") + "\n")
			}
			b.WriteString(some(r, "", " ", "\t") + "}" + some(r, "", "\r", ";", "\\\n") + "\n")
			want = append(want, x)
		}
		got, place, err := block.Parse(b.String())
		if !alike(got, want) || place != (api.Place{}) || err != nil {
			t.Fatalf("Parse(%q): %v, %v, %v, not %v", b.String(), got, place, err, want)
		}
		isBack(t, got)
	}
}

// deep are blocks as they are, with all that they share.
func deep(l []block.Block) []block.Block {
	all := slices.Clone(l)
	for i := range all {
		all[i].Fields = slices.Clone(all[i].Fields)
	}
	return all
}

// spoil writes over all that blocks hold, spare room too.
func spoil(l []block.Block) {
	for i := range l[:cap(l)] {
		b := &l[:cap(l)][i]
		for j := range b.Fields[:cap(b.Fields)] {
			b.Fields[:cap(b.Fields)][j] = field(-1, "spoilt", "spoilt")
		}
		*b = block.Block{At: -1, Kind: "spoilt"}
	}
}

// BK1: an answer is new memory: what is done to it, and to its spare room, is seen in no other one, nor in another list of it.
func TestParseSharesNothing(t *testing.T) {
	for n := range 40 {
		for fields := range 10 {
			s := strings.Repeat("define a {\n"+fieldLines(fields)+"}\n", n)
			first, _, _ := block.Parse(s)
			second, _, _ := block.Parse(s)
			want := deep(second)
			for i := range first {
				l := first[i].Fields
				for j := range l[:cap(l)] {
					l[:cap(l)][j] = field(-1, "spoilt", "")
				}
				if i+1 < n && !slices.Equal(first[i+1].Fields, want[i+1].Fields) {
					t.Errorf("%d blocks of %d fields: two lists share memory", n, fields)
				}
			}
			spoil(first)
			if !same(second, want) {
				t.Errorf("%d blocks of %d fields: two answers share memory", n, fields)
			}
			third, _, _ := block.Parse(s)
			if !same(third, want) {
				t.Errorf("%d blocks of %d fields: an answer is kept", n, fields)
			}
		}
	}
}

// BK2, BK3: what is handed in is neither changed, nor its spare room, nor kept.
func TestArgumentsStay(t *testing.T) {
	r := rand.New(rand.NewSource(6))
	for range 200 {
		l := append(make([]block.Block, 0, 20), someBlocks(r)...)
		for i := range l {
			l[i].Fields = append(make([]block.Field, 0, 20), l[i].Fields...)
		}
		if r.Intn(3) == 0 {
			l = append(l, plain("a", "x", " "))
		}
		whole := l[:cap(l)]
		for i := len(l); i < len(whole); i++ {
			whole[i] = plain("spare", "x", "1")
		}
		before := deep(whole)
		told, err := block.Text(l)
		for _, b := range l {
			b.Get("x")
			b.Get("name0")
		}
		if !reflect.DeepEqual(whole, before) {
			t.Fatalf("Text(%v): changed, from %v", l, before)
		}
		spoil(l)
		if again, wrong := block.Text(before[:len(l)]); again != told || (wrong == nil) != (err == nil) {
			t.Fatalf("Text: %q, %v, and then %q, %v", told, err, again, wrong)
		}
	}
}

// BK1, BK2: what is answered hangs on nothing that was asked for before.
func TestAnswersHangOnArgumentsAlone(t *testing.T) {
	for range 3 {
		isParsed(t, "define a {\nx\n}\n", made(1, "a", field(2, "x", "")))
		isWrong(t, "define a {\nx\n", 1, api.ErrEnd)
		isParsed(t, "")
		isWrong(t, "x", 1, api.ErrForm)
		isText(t, list(plain("a", "x", "")), "define a {\n  x\n}\n")
		noText(t, list(plain("a", "x", "", "x", "")), api.ErrTwice)
	}
}

// BK1, BK4: whatever text is there, what is answered is what the words alone give, and is read as itself where it can be told.
func FuzzText(f *testing.F) {
	for _, s := range []string{"define host {\n  name a\n}\n", "define a{\nx\\\n1;\n}\n}", "define a {\ndefine\nX", "# x\ndefine A {", strings.Repeat("l", api.MaxLine+1)} {
		f.Add(s)
	}
	f.Fuzz(func(t *testing.T, s string) {
		isPlain(t, s)
		if l, _, err := block.Parse(s); err == nil {
			if _, err := block.Text(l); err == nil {
				isBack(t, l)
			}
		}
	})
}

// BK2: whatever blocks are there, those that are told are read as themselves.
func FuzzBlock(f *testing.F) {
	f.Add("host", "name", "a", "use", "")
	f.Add("a", "define", "x\\", "x", ";")
	f.Fuzz(func(t *testing.T, kind, name, value, other, more string) {
		l := list(plain(kind, name, value, other, more))
		if _, err := block.Text(l); err == nil {
			isBack(t, l)
		}
	})
}
