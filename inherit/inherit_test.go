package inherit_test

import (
	"errors"
	"fmt"
	"math"
	"math/rand"
	"slices"
	"strings"
	"testing"

	"belvedere/api"
	"belvedere/block"
	"belvedere/inherit"
)

// longest is of as many bytes as a name may have.
const longest = "abcdefghijklmnopqrstuvwxyz_01-.Z"

// noNames can't be a block's name.
var noNames = []string{"", longest + "x", "a b", " a", "a ", " ", "\t", "a,b", "+a", "a+", "é", "a\x00", "\xff", "a/b", "a:", "*", "a\n", strings.Repeat("a", 5000)}

// someNames can be a block's name.
var someNames = []string{"a", "Z", "0", "_", "-", ".", "a-b.C_9", longest, "null", "name", "use", "n"}

// of is a block of a kind; each field is a name and, behind a blank, a value.
func of(kind string, fields ...string) block.Block {
	b := block.Block{Kind: kind}
	for _, f := range fields {
		name, value, _ := strings.Cut(f, " ")
		b.Fields = append(b.Fields, block.Field{Name: name, Value: value})
	}
	return b
}

// list are blocks at lines as a text of them has: a begin, a line a field, an end.
func list(l ...block.Block) []block.Block {
	at := 1
	for i := range l {
		l[i].At = at
		for j := range l[i].Fields {
			at++
			l[i].Fields[j].At = at
		}
		at += 2
	}
	return l
}

// xs is a text of so many bytes.
func xs(n int) string { return strings.Repeat("x", n) }

// number is a name of its own for each number.
func number(i int) string { return fmt.Sprintf("n%d", i) }

// numbers are so many names, parted by commas.
func numbers(n int) string {
	l := make([]string, n)
	for i := range l {
		l[i] = number(i)
	}
	return strings.Join(l, ",")
}

// templates are so many blocks of a kind that are not registered, each with a name.
func templates(kind string, n int) []block.Block {
	l := make([]block.Block, n)
	for i := range l {
		l[i] = of(kind, "name "+number(i), "register 0")
	}
	return l
}

// tell is a block as a text: its line and kind, then each field's line, name and value.
func tell(b block.Block) string {
	s := fmt.Sprint(b.At, " ", b.Kind)
	for _, f := range b.Fields {
		s += fmt.Sprint("|", f.At, " ", f.Name, "=", f.Value)
	}
	return s
}

// tellAll are blocks as texts.
func tellAll(l []block.Block) []string {
	var texts []string
	for _, b := range l {
		texts = append(texts, tell(b))
	}
	return texts
}

// sameBlock tells whether two blocks are the same; nil and no fields are.
func sameBlock(a, b block.Block) bool {
	return a.At == b.At && a.Kind == b.Kind && slices.Equal(a.Fields, b.Fields)
}

// same tells whether blocks are the same.
func same(a, b []block.Block) bool { return slices.EqualFunc(a, b, sameBlock) }

// copyOf are blocks that share nothing with others.
func copyOf(l []block.Block) []block.Block {
	c := slices.Clone(l)
	for i := range c {
		c[i].Fields = slices.Clone(c[i].Fields)
	}
	return c
}

// holds tells whether an error is just that number; of 0, whether there is none.
func holds(err error, want api.Errno) bool {
	if want == 0 {
		return err == nil
	}
	var got api.Errno
	return errors.As(err, &got) && got == want
}

// isResolved asks for what blocks are resolved to, as told.
func isResolved(t *testing.T, l []block.Block, want ...string) {
	t.Helper()
	got, place, err := inherit.Resolve(l)
	if !slices.Equal(tellAll(got), want) || place != (api.Place{}) || err != nil {
		t.Errorf("Resolve(%.300q): %.300q, %v, %v, not %.300q", tellAll(l), tellAll(got), place, err, want)
	}
}

// isFine asks for no error.
func isFine(t *testing.T, l []block.Block) {
	t.Helper()
	if _, place, err := inherit.Resolve(l); place != (api.Place{}) || err != nil {
		t.Errorf("Resolve(%.300q), of %d blocks: %v, %v", tellAll(l), len(l), place, err)
	}
}

// isWrong asks for the place at which blocks are wrong, and for nothing beside it; of Value for the same.
func isWrong(t *testing.T, l []block.Block, line int, want api.Errno) {
	t.Helper()
	got, place, err := inherit.Resolve(l)
	if len(got) != 0 || place != (api.Place{Line: line, Err: want}) || !holds(err, want) {
		t.Errorf("Resolve(%.300q), of %d blocks: %.100q, %v, %v, not error %d at %d", tellAll(l), len(l), tellAll(got), place, err, int(want), line)
	}
	for _, i := range []int{0, len(l) - 1, len(l), -1} {
		noValue(t, l, i, "a", want)
	}
}

// isValue asks for a block's value.
func isValue(t *testing.T, l []block.Block, i int, name, want string) {
	t.Helper()
	if got, has, err := inherit.Value(l, i, name); got != want || !has || err != nil {
		t.Errorf("Value(%.300q, %d, %q): %.100q, %v, %v, not %.100q", tellAll(l), i, name, got, has, err, want)
	}
}

// hasNone asks for no value, and no error.
func hasNone(t *testing.T, l []block.Block, i int, name string) {
	t.Helper()
	if got, has, err := inherit.Value(l, i, name); got != "" || has || err != nil {
		t.Errorf("Value(%.300q, %d, %q): %.100q, %v, %v, not none", tellAll(l), i, name, got, has, err)
	}
}

// noValue asks for an error of Value, and for nothing beside it.
func noValue(t *testing.T, l []block.Block, i int, name string, want api.Errno) {
	t.Helper()
	if got, has, err := inherit.Value(l, i, name); got != "" || has || !holds(err, want) {
		t.Errorf("Value(%.300q, %d, %q): %.100q, %v, %v, not error %d", tellAll(l), i, name, got, has, err, int(want))
	}
}

// plainField is a block's first field of a name.
func plainField(b block.Block, name string) (block.Field, bool) {
	for _, f := range b.Fields {
		if f.Name == name {
			return f, true
		}
	}
	return block.Field{}, false
}

// plainParts are a list's parts, where it is one.
func plainParts(s string) ([]string, api.Errno) {
	if strings.Trim(s, " \t") == "" {
		return nil, api.ErrNeed
	}
	l := strings.Split(s, ",")
	for i := range l {
		if l[i] = strings.Trim(l[i], " \t"); l[i] == "" {
			return nil, api.ErrForm
		}
	}
	for i := range l {
		if slices.Contains(l[:i], l[i]) {
			return nil, api.ErrTwice
		}
	}
	if len(l) > 4096 {
		return nil, api.ErrLong
	}
	return l, 0
}

// plainTemplates are the numbers of a block's templates, where its `use` is right.
func plainTemplates(l []block.Block, i int) ([]int, api.Errno) {
	f, has := plainField(l[i], "use")
	if !has {
		return nil, 0
	}
	names, wrong := plainParts(f.Value)
	if wrong != 0 {
		return nil, wrong
	}
	var found []int
	for _, name := range names {
		j := slices.IndexFunc(l, func(b block.Block) bool {
			own, named := plainField(b, "name")
			return named && own.Value == name && b.Kind == l[i].Kind
		})
		if j < 0 {
			return nil, api.ErrNone
		}
		found = append(found, j)
	}
	return found, 0
}

// plainLeads tells whether one block leads to another one, by one template or more.
func plainLeads(l []block.Block, from, to int) bool {
	come := make([]bool, len(l))
	ahead := []int{from}
	for len(ahead) > 0 {
		i := ahead[0]
		ahead = ahead[1:]
		found, _ := plainTemplates(l, i)
		for _, j := range found {
			if !come[j] {
				come[j] = true
				ahead = append(ahead, j)
			}
		}
	}
	return come[to]
}

// plainIsName tells whether a text is a name.
func plainIsName(s string) bool {
	for i := range len(s) {
		if !strings.Contains("abcdefghijklmnopqrstuvwxyzABCDEFGHIJKLMNOPQRSTUVWXYZ0123456789_-.", s[i:i+1]) {
			return false
		}
	}
	return len(s) >= 1 && len(s) <= 32
}

// plainNameFault is what is wrong with a block's name, or with its `register`.
func plainNameFault(l []block.Block, i int) api.Place {
	if f, has := plainField(l[i], "name"); has {
		if !plainIsName(f.Value) {
			return api.Place{Line: f.At, Err: api.ErrName}
		}
		for _, other := range l[:i] {
			if own, named := plainField(other, "name"); named && own.Value == f.Value && other.Kind == l[i].Kind {
				return api.Place{Line: f.At, Err: api.ErrTwice}
			}
		}
	}
	if f, has := plainField(l[i], "register"); has && f.Value == "" {
		return api.Place{Line: f.At, Err: api.ErrNeed}
	} else if has && f.Value != "0" && f.Value != "1" {
		return api.Place{Line: f.At, Err: api.ErrForm}
	}
	return api.Place{}
}

// plainUseFault is what is wrong with a block's `use`.
func plainUseFault(l []block.Block, i int) api.Place {
	f, _ := plainField(l[i], "use")
	if _, wrong := plainTemplates(l, i); wrong != 0 {
		return api.Place{Line: f.At, Err: wrong}
	}
	return api.Place{}
}

// plainLoopFault is what is wrong with where a block leads.
func plainLoopFault(l []block.Block, i int) api.Place {
	if f, _ := plainField(l[i], "use"); plainLeads(l, i, i) {
		return api.Place{Line: f.At, Err: api.ErrLoop}
	}
	return api.Place{}
}

// plainLongFault is what is wrong with a block's values.
func plainLongFault(l []block.Block, i int) api.Place {
	for _, name := range plainNames(l) {
		if f, _ := plainValue(l, i, name); len(f.Value) > 4096 {
			return api.Place{Line: l[i].At, Err: api.ErrLong}
		}
	}
	return api.Place{}
}

// plainFault is what is wrong first with blocks: each look at all of them, one behind the other.
func plainFault(l []block.Block) api.Place {
	for _, look := range []func([]block.Block, int) api.Place{plainNameFault, plainUseFault, plainLoopFault, plainLongFault} {
		for i := range l {
			if place := look(l, i); place.Err != 0 {
				return place
			}
		}
	}
	return api.Place{}
}

// plainNames are the names of all fields of all blocks, ordered.
func plainNames(l []block.Block) []string {
	var names []string
	for _, b := range l {
		for _, f := range b.Fields {
			names = append(names, f.Name)
		}
	}
	slices.Sort(names)
	return slices.Compact(names)
}

// plainGiven is what a block's templates give for a name.
func plainGiven(l []block.Block, i int, name string) (block.Field, bool) {
	found, _ := plainTemplates(l, i)
	for _, j := range found {
		if f, has := plainValue(l, j, name); has {
			return f, true
		}
	}
	return block.Field{}, false
}

// plainValue is a block's value for a name, where nothing leads back to itself.
func plainValue(l []block.Block, i int, name string) (block.Field, bool) {
	if name == "name" || name == "use" || name == "register" {
		return block.Field{}, false
	}
	own, has := plainField(l[i], name)
	if !has {
		return plainGiven(l, i, name)
	}
	if own.Value == "null" {
		return block.Field{}, false
	}
	if own.Value == "" || own.Value[0] != '+' {
		return own, true
	}
	given, _ := plainGiven(l, i, name)
	own.Value = own.Value[1:]
	if given.Value != "" && own.Value != "" {
		own.Value = "," + own.Value
	}
	own.Value = given.Value + own.Value
	return own, true
}

// plainResolve is Resolve by the words alone.
func plainResolve(l []block.Block) ([]block.Block, api.Place) {
	if place := plainFault(l); place.Err != 0 {
		return nil, place
	}
	var resolved []block.Block
	for i, b := range l {
		if f, has := plainField(b, "register"); has && f.Value == "0" {
			continue
		}
		out := block.Block{At: b.At, Kind: b.Kind}
		for _, name := range plainNames(l) {
			if f, has := plainValue(l, i, name); has {
				out.Fields = append(out.Fields, f)
			}
		}
		resolved = append(resolved, out)
	}
	return resolved, api.Place{}
}

// isPlain holds both calls against the words alone.
func isPlain(t *testing.T, l []block.Block) {
	t.Helper()
	want, wrong := plainResolve(l)
	got, place, err := inherit.Resolve(l)
	if !same(got, want) || place != wrong || !holds(err, wrong.Err) {
		t.Errorf("Resolve(%q): %.300q, %v, %v, not %.300q, %v", tellAll(l), tellAll(got), place, err, tellAll(want), wrong)
	}
	for _, name := range append(plainNames(l), "none") {
		for i := -1; i <= len(l); i++ {
			switch {
			case wrong.Err != 0:
				noValue(t, l, i, name, wrong.Err)
			case i < 0 || i == len(l):
				noValue(t, l, i, name, api.ErrRange)
			default:
				if f, has := plainValue(l, i, name); has {
					isValue(t, l, i, name, f.Value)
				} else {
					hasNone(t, l, i, name)
				}
			}
		}
	}
}

// The example of the chapter.
func TestExample(t *testing.T) {
	l := list(of("x", "name t", "a 1"), of("x", "use t", "a +2"))
	isResolved(t, l, "1 x|3 a=1", "5 x|7 a=1,2")
	isValue(t, l, 1, "a", "1,2")
}

// The example of the whole document.
func TestExampleOfAll(t *testing.T) {
	isResolved(t, list(of("x", "name t", "register 0", "contacts a"), of("x", "use t", "contacts +b")), "6 x|8 contacts=a,b")
}

// IH1: no blocks, and blocks without fields.
func TestResolveNothing(t *testing.T) {
	isResolved(t, nil)
	isResolved(t, []block.Block{})
	isResolved(t, list(block.Block{}), "1 ")
	isResolved(t, list(of("a")), "1 a")
	isResolved(t, list(of("a"), of("a"), of("b")), "1 a", "3 a", "5 b")
	isResolved(t, list(of("a", "name t"), of("a", "use t")), "1 a", "4 a")
	isResolved(t, list(of("a", "register 0"), of("b", "register 0")))
}

// IH1: a name that is none, at its field.
func TestNoNames(t *testing.T) {
	for _, name := range noNames {
		l := list(of("a", "x 1"), of("a", "x 2", "name "+name, "y 3"))
		isWrong(t, l, 6, api.ErrName)
		isWrong(t, list(of("a", "register 0", "name "+name)), 3, api.ErrName)
	}
	for x := range 256 {
		b := string([]byte{byte(x)})
		l := list(of("a", "x 1", "name "+b))
		if plainIsName(b) {
			isFine(t, l)
			continue
		}
		isWrong(t, l, 3, api.ErrName)
	}
}

// IH1: names, the longest one among them.
func TestNames(t *testing.T) {
	for _, name := range someNames {
		l := list(of("a", "name "+name, "x 1"), of("a", "use "+name))
		isResolved(t, l, "1 a|3 x=1", "5 a|3 x=1")
	}
}

// IH1: a name that an earlier block of the kind has, at the later one's field.
func TestNamesTwice(t *testing.T) {
	for _, name := range someNames {
		isWrong(t, list(of("a", "name "+name), of("a", "x 1", "name "+name)), 6, api.ErrTwice)
		isWrong(t, list(of("a", "name "+name, "register 0"), of("b", "name "+name), of("c"), of("a", "name "+name, "register 0"), of("a", "name "+name)), 11, api.ErrTwice)
		isResolved(t, list(of("a", "name "+name), of("b", "name "+name)), "1 a", "4 b")
	}
	isFine(t, list(of("a", "name t"), of("a", "name T"), of("a", "name t."), of("at", "name t"), of("", "name at")))
}

// IH1: what `register` may say, and what it says else.
func TestRegister(t *testing.T) {
	isResolved(t, list(of("a", "register 1", "x 1"), of("a", "x 2"), of("a", "register 0", "x 3")), "1 a|3 x=1", "5 a|6 x=2")
	isWrong(t, list(of("a", "x 1"), of("a", "x 2", "register")), 6, api.ErrNeed)
	for _, s := range []string{"2", "00", "01", "10", " 1", "1 ", "0 ", "\t0", "-1", "-0", "+0", "+1", "yes", "true", "null", "é", "０", "1\x00", strings.Repeat("1", 5000)} {
		isWrong(t, list(of("a", "x 1"), of("a", "x 2", "register "+s, "y 1")), 6, api.ErrForm)
	}
}

// IH1: `register` isn't had of templates.
func TestRegisterIsOwn(t *testing.T) {
	isResolved(t, list(of("a", "name t", "register 0", "x 1"), of("a", "name u", "use t"), of("a", "use u,t", "register 1")), "6 a|4 x=1", "10 a|4 x=1")
}

// IH1: a `use` that is no list, at its field.
func TestUseIsNoList(t *testing.T) {
	for s, want := range map[string]api.Errno{
		"": api.ErrNeed, " ": api.ErrNeed, "\t": api.ErrNeed, " \t ": api.ErrNeed,
		",": api.ErrForm, "t,": api.ErrForm, ",t": api.ErrForm, "t,,u": api.ErrForm, "t, ,u": api.ErrForm, "t,\t": api.ErrForm, " ,": api.ErrForm, "v,,v": api.ErrForm, "t,t,": api.ErrForm, ",v": api.ErrForm,
		"t,t": api.ErrTwice, "t,u,t": api.ErrTwice, "t , t": api.ErrTwice, "v,v": api.ErrTwice, "v,t,t": api.ErrTwice,
	} {
		l := list(of("a", "name t"), of("a", "name u"), of("a", "x 1", "use "+s, "y 1"))
		isWrong(t, l, 9, want)
	}
}

// IH1: a `use` may list as many as MaxList names.
func TestUseOfMost(t *testing.T) {
	most := templates("a", api.MaxList+1)
	for i, want := range map[int]api.Errno{1: 0, api.MaxList - 1: 0, api.MaxList: 0, api.MaxList + 1: api.ErrLong} {
		l := list(append(copyOf(most), of("a", "x 1", "use "+numbers(i)))...)
		if want == 0 {
			isFine(t, l)
			continue
		}
		isWrong(t, l, 4*len(most)+3, want)
	}
	isWrong(t, list(of("a", "use "+numbers(api.MaxList+1))), 2, api.ErrLong)
	isWrong(t, list(of("a", "use "+numbers(api.MaxList+1)+",n0")), 2, api.ErrTwice)
	isWrong(t, list(of("a", "use "+numbers(api.MaxList+1)+",")), 2, api.ErrForm)
	isWrong(t, list(of("a", "use "+numbers(api.MaxList))), 2, api.ErrNone)
}

// IH1: a `use` that lists what is no block's name, at its field.
func TestUseOfNone(t *testing.T) {
	for _, s := range []string{"v", "t,v", "v,t", "t,u,v", "T", "+t", "t u", "t;", "null", "0", "t\r", "\rt", "a", "use", "name", longest + longest} {
		l := list(of("a", "name t"), of("a", "name u"), of("b", "name v"), of("a", "x 1", "use "+s, "y 1"))
		isWrong(t, l, 12, api.ErrNone)
	}
	isWrong(t, list(of("b", "name t"), of("a", "use t")), 5, api.ErrNone)
	isWrong(t, list(of("a", "use t"), of("b", "name t")), 2, api.ErrNone)
	isWrong(t, list(of("a", "use t")), 2, api.ErrNone)
	isWrong(t, list(of("a"), of("a", "use ")), 4, api.ErrNeed)
}

// IH1: of the same name in two kinds, a block has the one of its own kind.
func TestUseOfOwnKind(t *testing.T) {
	isResolved(t, list(of("a", "name t", "x 1"), of("b", "name t", "x 2"), of("b", "use t"), of("a", "use t")), "1 a|3 x=1", "5 b|7 x=2", "9 b|7 x=2", "12 a|3 x=1")
}

// IH1: templates may stand behind what uses them.
func TestUseOfOnesBehind(t *testing.T) {
	isResolved(t, list(of("a", "use t", "y +2"), of("a", "name t", "use u", "y +1"), of("a", "name u", "x 1", "register 0")), "1 a|12 x=1|3 y=1,2", "5 a|12 x=1|8 y=1")
	isResolved(t, list(of("a", "name u", "use t"), of("a", "name v", "use u"), of("a", "name t", "x 1")), "1 a|11 x=1", "5 a|11 x=1", "9 a|11 x=1")
}

// IH1: loops of one, two and three, at the first block that leads back to itself, whatever leads to it.
func TestLoops(t *testing.T) {
	isWrong(t, list(of("a", "name t", "use t")), 3, api.ErrLoop)
	isWrong(t, list(of("a", "name t", "x 1", "use u,t"), of("a", "name u")), 4, api.ErrLoop)
	isWrong(t, list(of("a", "name t", "use u"), of("a", "name u", "use t")), 3, api.ErrLoop)
	isWrong(t, list(of("a", "name t", "use u"), of("a", "name u", "use v"), of("a", "name v", "use t")), 3, api.ErrLoop)
	isWrong(t, list(of("a", "use t"), of("a", "name t", "use t")), 6, api.ErrLoop)
	isWrong(t, list(of("a", "name r", "use s"), of("a", "name s", "use t"), of("a", "name t", "use u"), of("a", "name u", "use t")), 11, api.ErrLoop)
	isWrong(t, list(of("a", "use t"), of("a", "name v", "use t"), of("a", "name w"), of("a", "name u", "use t,w"), of("a", "name t", "use w,u"), of("a", "use t,v")), 13, api.ErrLoop)
	isWrong(t, list(of("a", "name t"), of("a", "use t"), of("b", "name t", "use t")), 9, api.ErrLoop)
	// The last of three leads back by another one; what stands between two loops isn't on one.
	isWrong(t, list(of("a", "name m", "use x"), of("a", "name x", "use y"), of("a", "name y", "use x"), of("a", "name p", "use q"), of("a", "name q", "use p,m")), 7, api.ErrLoop)
	isWrong(t, list(of("a", "name p", "use q"), of("a", "name q", "use p,m"), of("a", "name m", "use x"), of("a", "name x", "use y"), of("a", "name y", "use x")), 3, api.ErrLoop)
	isWrong(t, list(of("a", "use p"), of("a", "name m", "use x"), of("a", "name q", "use m,p"), of("a", "name x", "use x"), of("a", "name p", "use q")), 10, api.ErrLoop)
}

// IH1: a loop is one, whether anything is had of it or not.
func TestLoopsOfUnregistered(t *testing.T) {
	isWrong(t, list(of("a", "x 1"), of("a", "name t", "register 0", "use t", "x null")), 7, api.ErrLoop)
	isFine(t, list(of("a", "name t"), of("a", "name u", "use t"), of("a", "name v", "use t,u"), of("a", "name w", "use u,v,t"), of("a", "use w,t,v,u")))
}

// IH1: all loops of few blocks, each using any of them.
func TestAllSmallLoops(t *testing.T) {
	const most = 4
	for n := 1; n <= most; n++ {
		for bits := range 1 << (n * n) {
			l := make([]block.Block, n)
			for i := range l {
				l[i] = of("a", "name "+number(i))
				var uses []string
				for j := range n {
					if bits>>(i*n+j)&1 == 1 {
						uses = append(uses, number(j))
					}
				}
				if len(uses) > 0 {
					l[i].Fields = append(l[i].Fields, block.Field{Name: "use", Value: strings.Join(uses, ",")})
				}
			}
			want, wrong := plainLoops(list(l...), bits)
			if _, place, err := inherit.Resolve(l); place != (api.Place{Line: want, Err: wrong}) || !holds(err, wrong) {
				t.Fatalf("Resolve(%q): %v, %v, not error %d at %d", tellAll(l), place, err, int(wrong), want)
			}
		}
	}
}

// plainLoops is where the first of blocks stands that leads back to itself: which use which is told by bits.
func plainLoops(l []block.Block, bits int) (int, api.Errno) {
	n := len(l)
	leads := make([]bool, n*n)
	for i := range leads {
		leads[i] = bits>>i&1 == 1
	}
	for over := range n {
		for i := range n {
			for j := range n {
				leads[i*n+j] = leads[i*n+j] || leads[i*n+over] && leads[over*n+j]
			}
		}
	}
	for i := range n {
		if leads[i*n+i] {
			return l[i].Fields[1].At, api.ErrLoop
		}
	}
	return 0, 0
}

// IH1: own values of just so many bytes as may be, and of one more.
func TestLongOwn(t *testing.T) {
	for _, first := range []string{"x", "+", "++", "null", "é"} {
		own := func(n int) block.Block {
			return of("a", "y 1", "x "+first+xs(n-len(strings.TrimPrefix(first, "+"))))
		}
		for _, n := range []int{api.MaxLine - 1, api.MaxLine} {
			isValue(t, list(own(n)), 0, "x", own(n).Fields[1].Value[strings.Count(first[:1], "+"):])
		}
		for _, n := range []int{api.MaxLine + 1, api.MaxLine + 2, 1 << 20} {
			isWrong(t, list(own(n)), 1, api.ErrLong)
			isWrong(t, list(of("a", "x 1"), own(n), own(n)), 4, api.ErrLong)
		}
	}
	l := list(of("a", "y 1"), of("a", "x "+xs(api.MaxLine+1), "register 0"))
	isWrong(t, l, 4, api.ErrLong)
	isWrong(t, list(of("a", strings.Repeat("n", 5000)+" "+xs(api.MaxLine+1))), 1, api.ErrLong)
	isFine(t, list(of("a", strings.Repeat("n", 5000)+" 1")))
}

// IH1: values that are made too long by `+`.
func TestLongMade(t *testing.T) {
	for _, n := range []int{1, 2, 2048, 4094} {
		l := list(of("a", "name t", "x "+xs(n)), of("a", "use t", "x +"+xs(api.MaxLine-1-n)))
		isValue(t, l, 1, "x", xs(n)+","+xs(api.MaxLine-1-n))
		isWrong(t, list(of("a", "name t", "x "+xs(n)), of("a", "use t", "x +"+xs(api.MaxLine-n))), 5, api.ErrLong)
	}
	isFine(t, list(of("a", "name t", "x "+xs(api.MaxLine)), of("a", "use t", "x +")))
	isFine(t, list(of("a", "name t", "x"), of("a", "use t", "x +"+xs(api.MaxLine))))
	isFine(t, list(of("a", "name t", "x null"), of("a", "use t", "x +"+xs(api.MaxLine))))
	isFine(t, list(of("a", "name t", "x "+xs(api.MaxLine)), of("a", "use t", "x "+xs(api.MaxLine))))
	isWrong(t, list(of("a", "name t", "x "+xs(api.MaxLine)), of("a", "use t", "x +y")), 5, api.ErrLong)
	isWrong(t, list(of("a", "name t", "x y"), of("a", "use t", "x +"+xs(api.MaxLine), "register 0")), 5, api.ErrLong)
}

// IH1: values that are got of templates, at the first block that has one, be it the template or not.
func TestLongGot(t *testing.T) {
	long := "x " + xs(api.MaxLine+1)
	isWrong(t, list(of("a", "use t"), of("a", "name t", "register 0", long)), 1, api.ErrLong)
	isWrong(t, list(of("a"), of("a", "name t", "register 0", long), of("a", "use t")), 3, api.ErrLong)
	isWrong(t, list(of("a", "use t", "x 1"), of("a", "use t", "x null"), of("a", "use t", "x"), of("a", "name u", "use t"), of("a", "name t", long)), 13, api.ErrLong)
	isWrong(t, list(of("a", "use u,t"), of("a", "use u"), of("a", "name u", "x 1"), of("a", "use t,u"), of("a", "name t", long)), 11, api.ErrLong)
	isWrong(t, list(of("a", "use t", "x +1"), of("a", "name t", long)), 1, api.ErrLong)
	isWrong(t, list(of("a", "use t", "x +"), of("a", "name t", long)), 1, api.ErrLong)
}

// IH1: what `use` says may be longer than a value: it is none.
func TestLongUse(t *testing.T) {
	l := append(templates("a", 2000), of("a", "use "+numbers(2000)), of("a", "use n0"+strings.Repeat(" ", 5000)+",n1"))
	isFine(t, list(l...))
}

// growing are so many blocks, each of which adds to what the one ahead of it has: twice as much as that one, up to a bound.
func growing(n, bound int) []block.Block {
	l := []block.Block{of("a", "name n0", "x +x")}
	for i, size := 1, 1; i < n; i++ {
		size = min(2*size, bound)
		l = append(l, of("a", "name "+number(i), "use "+number(i-1), "x +"+xs(size)))
	}
	return list(l...)
}

// IH1: values that grow from template to template end in an error, however many there are.
func TestValuesThatGrow(t *testing.T) {
	const first = 11
	for _, l := range [][]block.Block{growing(22, 1<<20), growing(1<<15, api.MaxLine)} {
		isFine(t, l[:first])
		isWrong(t, l[:first+1], l[first].At, api.ErrLong)
		isWrong(t, l, l[first].At, api.ErrLong)
		slices.Reverse(l)
		isWrong(t, list(l...), 1, api.ErrLong)
	}
}

// IH1: of two templates that lead to the same one, one alone gives a value: nothing is doubled by that.
func TestNothingIsDoubled(t *testing.T) {
	l := []block.Block{of("a", "name n0", "x 0"), of("a", "name n1", "use n0", "x +1")}
	for i := 2; i < 1000; i++ {
		l = append(l, of("a", "name "+number(i), "use "+number(i-1)+","+number(i-2), "x +1"))
	}
	l = list(l...)
	isFine(t, l)
	isValue(t, l, 999, "x", "0"+strings.Repeat(",1", 999))
}

// IH1: many blocks, each of which uses the two ahead of it, or the two behind it.
func TestManyOfTwo(t *testing.T) {
	const n = 20000
	for _, last := range []string{"x 1", "x null", "y 1"} {
		l := make([]block.Block, n)
		for i := range l {
			l[i] = of("a", "name "+number(i), "register 0")
			switch {
			case i == 0:
				l[i].Fields = append(l[i].Fields, of("a", last).Fields...)
			case i == 1:
				l[i].Fields = append(l[i].Fields, of("a", "use n0").Fields...)
			default:
				l[i].Fields = append(l[i].Fields, of("a", "use "+number(i-1)+","+number(i-2)).Fields...)
			}
		}
		end := of("a", "use "+number(n-1)+","+number(n-2), "z 1")
		want := map[string]string{"x 1": "|4 x=1", "x null": "", "y 1": "|4 y=1"}[last]
		l = list(append(l, end)...)
		at := l[n].At
		isResolved(t, l, fmt.Sprint(at, " a", want, "|", at+2, " z=1"))
		slices.Reverse(l)
		isResolved(t, list(l...), "1 a"+strings.Replace(want, "4", fmt.Sprint(l[n].Fields[len(l[n].Fields)-1].At), 1)+"|3 z=1")
	}
	loops := make([]block.Block, n)
	for i := range loops {
		loops[i] = of("a", "name "+number(i), "use "+number((i+1)%n)+","+number((i+2)%n))
	}
	isWrong(t, list(loops...), 3, api.ErrLoop)
}

// IH1: as many templates one behind the other as may be nested.
func TestDeep(t *testing.T) {
	const n = 1 << 16
	for _, back := range []bool{false, true} {
		l := make([]block.Block, n)
		for i := range l {
			l[i] = of("a", "name "+number(i), "use "+number(i+1), "register 0")
		}
		l[0] = of("a", "use n1", "x +1")
		l[n-1] = of("a", "name "+number(n-1), "register 0", "x 0", "y 2")
		if back {
			l[n-1].Fields[1] = block.Field{Name: "use", Value: number(n - 1)}
		}
		l = list(l...)
		if back {
			isWrong(t, l, l[n-1].Fields[1].At, api.ErrLoop)
			continue
		}
		isResolved(t, l, fmt.Sprint("1 a|3 x=0,1|", l[n-1].Fields[3].At, " y=2"))
	}
}

// faulty are blocks, each with one fault of its own, and the place of it where it stands alone at the line 1.
var faulty = []struct {
	fields []string
	look   int
	place  api.Place
}{
	{[]string{"name a b"}, 1, api.Place{Line: 2, Err: api.ErrName}},
	{[]string{"name t"}, 1, api.Place{Line: 2, Err: api.ErrTwice}},
	{[]string{"register"}, 1, api.Place{Line: 2, Err: api.ErrNeed}},
	{[]string{"register 2"}, 1, api.Place{Line: 2, Err: api.ErrForm}},
	{[]string{"use"}, 2, api.Place{Line: 2, Err: api.ErrNeed}},
	{[]string{"use t,"}, 2, api.Place{Line: 2, Err: api.ErrForm}},
	{[]string{"use t,t"}, 2, api.Place{Line: 2, Err: api.ErrTwice}},
	{[]string{"use v"}, 2, api.Place{Line: 2, Err: api.ErrNone}},
	{[]string{"name v2", "use v2"}, 3, api.Place{Line: 3, Err: api.ErrLoop}},
	{[]string{"x " + xs(5000)}, 4, api.Place{Line: 1, Err: api.ErrLong}},
}

// IH1: of two faults in two blocks, the one of the earlier look is told; of one look, that of the earlier block.
func TestOrderInTwoBlocks(t *testing.T) {
	for i, a := range faulty {
		for j, b := range faulty {
			if i == j {
				continue
			}
			l := list(of("a", "name t"), of("a", a.fields...), of("a"), of("a", b.fields...))
			first, at := a, l[1].At
			if b.look < a.look {
				first, at = b, l[3].At
			}
			isWrong(t, l, at+first.place.Line-1, first.place.Err)
			isPlain(t, l)
		}
	}
}

// IH1: of two faults in one block, the one of the earlier look is told, whichever field stands first.
func TestOrderInOneBlock(t *testing.T) {
	for _, c := range []struct {
		fields []string
		line   int
		want   api.Errno
	}{
		{[]string{"register 2", "name a b"}, 6, api.ErrName},
		{[]string{"register", "name t"}, 6, api.ErrTwice},
		{[]string{"use v", "register"}, 6, api.ErrNeed},
		{[]string{"use v", "register 2"}, 6, api.ErrForm},
		{[]string{"use", "name a b"}, 6, api.ErrName},
		{[]string{"use ,", "name t"}, 6, api.ErrTwice},
		{[]string{"x " + xs(5000), "name a b"}, 6, api.ErrName},
		{[]string{"x " + xs(5000), "register 2"}, 6, api.ErrForm},
		{[]string{"x " + xs(5000), "use v"}, 6, api.ErrNone},
		{[]string{"x " + xs(5000), "use t,"}, 6, api.ErrForm},
		{[]string{"x " + xs(5000), "use s", "name s"}, 6, api.ErrLoop},
		{[]string{"use s,v", "name s"}, 5, api.ErrNone},
		{[]string{"use s,s", "name s"}, 5, api.ErrTwice},
	} {
		l := list(of("a", "name t"), of("a", c.fields...))
		isWrong(t, l, c.line, c.want)
	}
}

// IH1: a name that is wrong is no name that a later one has twice.
func TestNameAheadOfTwice(t *testing.T) {
	isWrong(t, list(of("a", "name a b"), of("a", "name a b")), 2, api.ErrName)
	isWrong(t, list(of("a", "name t"), of("a", "name t", "register 2"), of("a", "name ")), 5, api.ErrTwice)
	isWrong(t, list(of("a", "name t"), of("a", "register "), of("a", "name t")), 5, api.ErrNeed)
	isWrong(t, list(of("a", "name t"), of("a", "register x"), of("a", "name a b")), 5, api.ErrForm)
}

// IH1: the place is the number that was handed in, whatever it is.
func TestPlacesAreThoseGiven(t *testing.T) {
	for _, at := range []int{0, -1, 7, math.MinInt, math.MaxInt} {
		own := block.Field{At: at, Name: "name", Value: ""}
		isWrong(t, []block.Block{{At: 5, Kind: "a", Fields: []block.Field{own}}}, at, api.ErrName)
		long := block.Field{At: 5, Name: "x", Value: xs(5000)}
		isWrong(t, []block.Block{{At: at, Kind: "a", Fields: []block.Field{long}}}, at, api.ErrLong)
		l := []block.Block{{At: at, Kind: "a", Fields: []block.Field{{At: at, Name: "x"}, {At: 3, Name: "a"}}}}
		isResolved(t, l, fmt.Sprint(at, " a|3 a=|", at, " x="))
	}
}

// IH1: fields by their names' bytes, whatever order they stood in.
func TestFieldsAreOrdered(t *testing.T) {
	names := []string{"", "0", "9", "A", "Name", "Z", "Z0", "_", "__", "a", "a0", "aZ", "a_", "aa", "ab", "names", "nul", "regist", "registers", "us", "user", "z", "é", "\xff"}
	if !slices.IsSorted(names) {
		t.Fatal("names are not ordered")
	}
	r := rand.New(rand.NewSource(11))
	for range 200 {
		own, wanted := []string{"name t", "use u", "register 1"}, "1 a"
		for _, name := range names {
			own = append(own, name+" v"+name)
		}
		r.Shuffle(len(own), func(i, j int) { own[i], own[j] = own[j], own[i] })
		for _, name := range names {
			wanted += fmt.Sprint("|", 2+slices.Index(own, name+" v"+name), " ", name, "=v", name)
		}
		isResolved(t, list(of("a", own...), of("a", "name u", "register 0")), wanted)
	}
}

// IH1: among fields of one name, in blocks that no text has, the first is it.
func TestFirstOfOneName(t *testing.T) {
	isResolved(t, list(of("a", "name t", "x 1", "x 2", "name u"), of("a", "use t", "use u", "x +3", "x null", "x +4", "register 1", "register 0")), "1 a|3 x=1", "7 a|10 x=1,3")
	isResolved(t, list(of("a", "name t", "x 1"), of("a", "use t", "x null", "x 2", "y +1", "y +2")), "1 a|3 x=1", "5 a|9 y=1")
	isWrong(t, list(of("a", "name t", "name u"), of("a", "use u")), 6, api.ErrNone)
	isFine(t, list(of("a", "name t", "name "), of("a", "use t", "use ", "register 1", "register 2", "x 1", "x "+xs(5000))))
}

// IH1: where each field is: its own place, or the place of the template's field that gave it.
func TestPlacesOfFields(t *testing.T) {
	isResolved(t, list(of("a", "name t", "x 1", "y 2"), of("a", "use t", "y 3", "z 4")), "1 a|3 x=1|4 y=2", "6 a|3 x=1|8 y=3|9 z=4")
	l := []block.Block{of("a", "name n0", "x 1", "y 1", "z 1")}
	for i := 1; i < 50; i++ {
		l = append(l, of("a", "name "+number(i), "use "+number(i-1), "y +2"))
	}
	l = list(append(l, of("a", "use "+number(49)))...)
	resolved, _, err := inherit.Resolve(l)
	if err != nil {
		t.Fatal(err)
	}
	want := fmt.Sprint(l[50].At, " a|3 x=1|", l[49].Fields[2].At, " y=1", strings.Repeat(",2", 49), "|5 z=1")
	if got := tell(resolved[50]); got != want {
		t.Errorf("the last of 51: %q, not %q", got, want)
	}
}

// IH1: `null` is no value: an own one, whatever templates give; of a template, the next one's is it.
func TestNull(t *testing.T) {
	isResolved(t, list(of("a", "x null")), "1 a")
	isResolved(t, list(of("a", "name t", "x 1", "y 2"), of("a", "use t", "x null")), "1 a|3 x=1|4 y=2", "6 a|4 y=2")
	isResolved(t, list(of("a", "name t", "x null"), of("a", "name u", "x 2"), of("a", "use t,u"), of("a", "use u,t"), of("a", "use t")), "1 a", "5 a|7 x=2", "9 a|7 x=2", "12 a|7 x=2", "15 a")
	isResolved(t, list(of("a", "name s", "x 1"), of("a", "name t", "x null", "use s"), of("a", "name u", "x 2"), of("a", "use t,u"), of("a", "use t,s,u")), "1 a|3 x=1", "5 a", "10 a|12 x=2", "14 a|12 x=2", "17 a|3 x=1")
	isResolved(t, list(of("a", "name t", "x null"), of("a", "use t", "x +1")), "1 a", "5 a|7 x=1")
	for _, s := range []string{"Null", "NULL", "nul", "nulls", " null", "null ", "null,", "nil", "none"} {
		isResolved(t, list(of("a", "x "+s)), "1 a|2 x="+s)
	}
}

// IH1: behind a `+`, `null` is a text as others are.
func TestNullBehindPlus(t *testing.T) {
	isResolved(t, list(of("a", "name t", "x 1"), of("a", "name u", "use t", "x +null", "y +null"), of("a", "use u", "y +2")), "1 a|3 x=1", "5 a|8 x=1,null|9 y=null", "11 a|8 x=1,null|13 y=null,2")
	isResolved(t, list(of("a", "name t", "x +null"), of("a", "name u", "x 2"), of("a", "use t,u")), "1 a|3 x=null", "5 a|7 x=2", "9 a|3 x=null")
}

// IH1: a field that is empty is a value.
func TestEmpty(t *testing.T) {
	isResolved(t, list(of("a", "name t", "x"), of("a", "name u", "x 1"), of("a", "use t,u"), of("a", "use u", "x")), "1 a|3 x=", "5 a|7 x=1", "9 a|3 x=", "12 a|14 x=")
	isValue(t, list(of("a", "x")), 0, "x", "")
	isResolved(t, list(of("a", "name t", "x", "register 0"), of("a", "name u", "x 1", "register 0"), of("a", "use t,u", "x +2"), of("a", "use t,u", "x +")), "11 a|13 x=2", "15 a|17 x=")
}

// IH1: `+` alone and with something behind, by what templates give.
func TestPlus(t *testing.T) {
	for _, c := range []struct{ given, own, want string }{
		{"", "+", ""}, {"", "+1", "1"}, {"", "+1,2", "1,2"},
		{"y 1", "+", ""}, {"y 1", "+2", "2"},
		{"x null", "+", ""}, {"x null", "+2", "2"},
		{"x", "+", ""}, {"x", "+2", "2"},
		{"x +", "+", ""}, {"x +", "+2", "2"},
		{"x 1", "+", "1"}, {"x 1", "+2", "1,2"}, {"x 1", "+ 2", "1, 2"}, {"x 1", "+,2", "1,,2"}, {"x 1", "+,", "1,,"},
		{"x +1", "+2", "1,2"}, {"x 1,2", "+3,4", "1,2,3,4"}, {"x ,", "+2", ",,2"}, {"x ,", "+", ","},
		{"x 1", "2", "2"}, {"x 1", "2+", "2+"}, {"x 1", " +2", " +2"}, {"x 1", "-2", "-2"}, {"x 1", "1+2", "1+2"},
	} {
		template := of("a", "name t", "register 0")
		if c.given != "" {
			template.Fields = append(template.Fields, of("a", c.given).Fields...)
		}
		l := list(template, of("a", "x "+c.own, "use t"))
		isValue(t, l, 1, "x", c.want)
		want := fmt.Sprint(l[1].At, " a|", l[1].At+1, " x=", c.want)
		if c.given == "y 1" {
			want += "|4 y=1"
		}
		isResolved(t, l, want)
		if c.given == "" {
			isResolved(t, list(of("a", "x "+c.own)), "1 a|2 x="+c.want)
		}
	}
}

// IH1: values that begin with `+` twice: one is taken away by each block that has it itself.
func TestPlusTwice(t *testing.T) {
	isResolved(t, list(of("a", "name t", "x ++1"), of("a", "use t"), of("a", "use t", "x ++2"), of("a", "use t", "x +")), "1 a|3 x=+1", "5 a|3 x=+1", "8 a|10 x=+1,+2", "12 a|14 x=+1")
	isResolved(t, list(of("a", "x ++"), of("a", "x +++")), "1 a|2 x=+", "4 a|5 x=++")
}

// IH1: `+` over templates that have `+` themselves.
func TestPlusOverMany(t *testing.T) {
	isResolved(t, list(of("a", "name s", "x 1"), of("a", "name t", "use s", "x +2"), of("a", "name u", "use t"), of("a", "use u", "x +3"), of("a", "use u,s", "x +4"), of("a", "use s,u", "x +5")), "1 a|3 x=1", "5 a|8 x=1,2", "10 a|8 x=1,2", "14 a|16 x=1,2,3", "18 a|20 x=1,2,4", "22 a|24 x=1,5")
}

// IH1: the first of templates that has a value gives it, also where it has it of its own templates.
func TestFirstTemplate(t *testing.T) {
	l := list(of("a", "name s", "x 1"), of("a", "name t", "use s"), of("a", "name u", "x 2", "y 2"), of("a", "use t,u"), of("a", "use u,t"), of("a", "use u,s,t", "y +3"))
	isResolved(t, l, "1 a|3 x=1", "5 a|3 x=1", "9 a|11 x=2|12 y=2", "14 a|3 x=1|12 y=2", "17 a|11 x=2|12 y=2", "20 a|11 x=2|22 y=2,3")
	// Only the first one's is had, not what the others would give behind it.
	isResolved(t, list(of("a", "name t", "x +1"), of("a", "name u", "x +2"), of("a", "use t,u", "x +3")), "1 a|3 x=1", "5 a|7 x=2", "9 a|11 x=1,3")
}

// IH1: blanks about a `use`'s commas are none of its names.
func TestBlanksInUse(t *testing.T) {
	for _, use := range []string{"t,u", " t,u", "t ,u", "t, u", "t,u ", "\tt\t,\t u \t", "  t  ,  u  "} {
		isResolved(t, list(of("a", "name t", "x 1", "register 0"), of("a", "name u", "x 2", "y 2", "register 0"), of("a", "use "+use)), "12 a|3 x=1|9 y=2")
	}
}

// IH1: as many templates as a list may have, of which the last gives something.
func TestMostTemplates(t *testing.T) {
	l := templates("a", api.MaxList)
	last := api.MaxList - 1
	l[last].Fields = append(l[last].Fields, of("a", "x 1").Fields...)
	l[7].Fields = append(l[7].Fields, of("a", "y 1").Fields...)
	l[8].Fields = append(l[8].Fields, of("a", "y 2").Fields...)
	l = list(append(l, of("a", "use "+numbers(api.MaxList)))...)
	isResolved(t, l, fmt.Sprint(l[api.MaxList].At, " a|", l[last].Fields[2].At, " x=1|", l[7].Fields[2].At, " y=1"))
}

// IH2: values of each block, registered or not.
func TestValue(t *testing.T) {
	l := list(of("a", "name t", "register 0", "x 1", "y 2", "z null"), of("a", "use t", "y +3", "x null", "w"), of("b", "x 4", "register 1"), of("b"))
	isValue(t, l, 0, "x", "1")
	isValue(t, l, 0, "y", "2")
	isValue(t, l, 1, "y", "2,3")
	isValue(t, l, 1, "w", "")
	isValue(t, l, 2, "x", "4")
	for i := range l {
		for _, name := range []string{"name", "use", "register", "z", "v", "", "X", "x ", "null", "+", "\xff", strings.Repeat("x", 5000)} {
			hasNone(t, l, i, name)
		}
	}
	hasNone(t, l, 0, "w")
	hasNone(t, l, 1, "x")
	hasNone(t, l, 2, "y")
	hasNone(t, l, 3, "x")
}

// IH2: no block's number, and that blocks are wrong ahead of it.
func TestValueBeyond(t *testing.T) {
	for _, l := range [][]block.Block{nil, {}, list(of("a", "x 1")), list(of("a", "x 1"), of("a", "x 2", "register 0"))} {
		for _, i := range []int{-1, len(l), len(l) + 1, -2, math.MinInt, math.MaxInt, -1 << 32, 1 << 32} {
			noValue(t, l, i, "x", api.ErrRange)
			noValue(t, l, i, "name", api.ErrRange)
		}
	}
	for _, f := range faulty {
		l := list(of("a", "name t"), of("a", f.fields...))
		for _, i := range []int{-1, 0, 1, 2, math.MinInt, math.MaxInt} {
			noValue(t, l, i, "x", f.place.Err)
			noValue(t, l, i, "name", f.place.Err)
		}
	}
}

// ordinary are blocks at random, without faults; with no `null` and no `+` behind a `+`, as these are read once only.
func ordinary(r *rand.Rand) []block.Block {
	values := []string{"", "1", "a,b", "+", "+2", "+c,d", "null", "a+", "n"}
	var l []block.Block
	for i := range 1 + r.Intn(8) {
		fields := []string{"name " + number(i)}
		if r.Intn(3) == 0 {
			fields = append(fields, fmt.Sprint("register ", r.Intn(2)))
		}
		uses := r.Perm(i)[:r.Intn(min(i, 3)+1)]
		for j, u := range uses {
			if j == 0 {
				fields = append(fields, "use "+number(u))
				continue
			}
			fields[len(fields)-1] += "," + number(u)
		}
		for _, name := range []string{"A", "x", "y_", "z0"} {
			if r.Intn(2) == 0 {
				fields = append(fields, name+" "+values[r.Intn(len(values))])
			}
		}
		r.Shuffle(len(fields), func(i, j int) { fields[i], fields[j] = fields[j], fields[i] })
		l = append(l, of("a", fields...))
	}
	return list(l...)
}

// IH3: what was resolved, resolved again, is the same.
func TestResolvedAgain(t *testing.T) {
	r := rand.New(rand.NewSource(3))
	for range 20000 {
		l := ordinary(r)
		once, _, err := inherit.Resolve(l)
		if err != nil {
			t.Fatalf("Resolve(%q): %v", tellAll(l), err)
		}
		twice, place, err := inherit.Resolve(once)
		if !same(once, twice) || place != (api.Place{}) || err != nil {
			t.Fatalf("%q, resolved: %q, again: %q, %v, %v", tellAll(l), tellAll(once), tellAll(twice), place, err)
		}
		for i, b := range once {
			for _, name := range []string{"name", "use", "register"} {
				if _, has := b.Get(name); has {
					t.Fatalf("%q, resolved: %q of the block %d", tellAll(l), name, i)
				}
			}
		}
	}
}

// IH1, IH2: ordinary blocks by the words alone.
func TestOrdinaryIsPlain(t *testing.T) {
	r := rand.New(rand.NewSource(4))
	for range 2000 {
		l := ordinary(r)
		isPlain(t, l)
		r.Shuffle(len(l), func(i, j int) { l[i], l[j] = l[j], l[i] })
		isPlain(t, l)
	}
}

// wild are blocks at random, with faults of all kinds among them.
func wild(r *rand.Rand) []block.Block {
	pick := func(l ...string) string { return l[r.Intn(len(l))] }
	seldom := func(often, now string) string {
		if r.Intn(12) == 0 {
			return now
		}
		return often
	}
	var l []block.Block
	for i := range 1 + r.Intn(6) {
		var fields []string
		for range r.Intn(7) {
			switch r.Intn(6) {
			case 0:
				fields = append(fields, "name "+seldom(number(i), pick("n0", "n1", "", "a b", longest)))
			case 1:
				fields = append(fields, "register "+seldom(pick("0", "1"), pick("", "2", "00")))
			case 2:
				fields = append(fields, "use "+seldom(number(r.Intn(6)), pick("", "n0,", "n1,n1", "n0, n2", "n3 ,n1,n2", "n9")))
			default:
				fields = append(fields, pick("x", "y", "Z")+" "+seldom(pick("", "1", "+", "+2", "null", "++3", "+null"), pick(xs(4096), xs(4097), "+"+xs(2048), "+"+xs(2047), xs(2048))))
			}
		}
		l = append(l, of(seldom("a", "b"), fields...))
	}
	return list(l...)
}

// IH1, IH2: wild blocks by the words alone.
func TestWildIsPlain(t *testing.T) {
	r := rand.New(rand.NewSource(5))
	told := map[api.Errno]int{}
	for range 20000 {
		l := wild(r)
		isPlain(t, l)
		_, place, _ := inherit.Resolve(l)
		told[place.Err]++
	}
	for _, e := range []api.Errno{0, api.ErrName, api.ErrTwice, api.ErrNeed, api.ErrForm, api.ErrLong, api.ErrNone, api.ErrLoop} {
		if told[e] < 50 {
			t.Errorf("error %d came only %d times", int(e), told[e])
		}
	}
}

// Rule 3: blocks that are handed in stay as they were, what lies behind them too.
func TestArgumentsStay(t *testing.T) {
	r := rand.New(rand.NewSource(6))
	for range 3000 {
		l := wild(r)
		for i := range l {
			l[i].Fields = append(make([]block.Field, 0, len(l[i].Fields)+3), l[i].Fields...)
			spare := l[i].Fields[:cap(l[i].Fields)]
			for j := len(l[i].Fields); j < len(spare); j++ {
				spare[j] = block.Field{At: 99, Name: "spare", Value: "+spare"}
			}
		}
		was := copyOf(l)
		inherit.Resolve(l)
		inherit.Value(l, 0, "x")
		for i := range l {
			for _, f := range l[i].Fields[len(l[i].Fields):cap(l[i].Fields)] {
				if f != (block.Field{At: 99, Name: "spare", Value: "+spare"}) {
					t.Fatalf("%q: %v lies behind the block %d", tellAll(was), f, i)
				}
			}
		}
		if !same(l, was) {
			t.Fatalf("%q: %q is left", tellAll(was), tellAll(l))
		}
	}
}

// spoil changes all that blocks hold, spare room too.
func spoil(l []block.Block) {
	l = l[:cap(l)]
	for i := range l {
		fields := l[i].Fields[:cap(l[i].Fields)]
		for j := range fields {
			fields[j] = block.Field{At: -7, Name: "spoilt", Value: "spoilt"}
		}
		l[i] = block.Block{At: -7, Kind: "spoilt", Fields: []block.Field{{At: -7, Name: "spoilt"}}}
	}
}

// Rule 3: what is answered shares nothing with what was handed in, with another answer, or within itself.
func TestAnswersAreNew(t *testing.T) {
	r := rand.New(rand.NewSource(7))
	for range 3000 {
		l := ordinary(r)
		was := copyOf(l)
		first, _, _ := inherit.Resolve(l)
		second, _, _ := inherit.Resolve(l)
		wanted := copyOf(first)
		spoil(first)
		if !same(l, was) || !same(second, wanted) {
			t.Fatalf("%q, after an answer was changed: %q, and %q", tellAll(was), tellAll(l), tellAll(second))
		}
		for i := range second {
			fields := second[i].Fields[:cap(second[i].Fields)]
			for j := range fields {
				fields[j] = block.Field{At: -7}
			}
			if !same(second[i+1:], wanted[i+1:]) {
				t.Fatalf("%q, after the block %d of its answer was changed: %q", tellAll(was), i, tellAll(second))
			}
		}
		third, _, _ := inherit.Resolve(l)
		spoil(l)
		if !same(third, wanted) {
			t.Fatalf("the answer of %q, after that was changed: %q", tellAll(was), tellAll(third))
		}
	}
}

// Rule 4: an answer hangs on the arguments alone, not on calls ahead of it, nor on a map's order.
func TestAnswersHangOnArgumentsAlone(t *testing.T) {
	r := rand.New(rand.NewSource(8))
	var all [][]block.Block
	for range 300 {
		all = append(all, wild(r), ordinary(r))
	}
	all = append(all, list(of("a", "x "+xs(5000), "y "+xs(5000), "z "+xs(5000)), of("a", "x "+xs(5000))))
	told := func() string {
		var b strings.Builder
		for _, l := range all {
			resolved, place, err := inherit.Resolve(l)
			value, has, _ := inherit.Value(l, len(l)-1, "x")
			fmt.Fprintln(&b, tellAll(resolved), place, err, value, has)
		}
		return b.String()
	}
	want := told()
	for range 10 {
		if told() != want {
			t.Fatal("the same blocks are told otherwise")
		}
	}
}

// FuzzInherit holds both calls against the words alone, with blocks of any text's fields.
func FuzzInherit(f *testing.F) {
	f.Add("name t\na 1\n\nuse t\na +2")
	f.Add("name t\nuse u\n\nname u\nuse t\n\nregister 2")
	f.Add("name t\nx null\nregister 0\n\nname u\nx\n\nuse t,u\nx +null\nx ++")
	f.Fuzz(func(t *testing.T, s string) {
		var l []block.Block
		for _, fields := range strings.SplitN(s, "\n\n", 6) {
			l = append(l, of("a", strings.SplitN(fields, "\n", 8)...))
		}
		isPlain(t, list(l...))
	})
}
