package files_test

import (
	"bytes"
	"errors"
	"fmt"
	"math"
	"math/rand"
	"slices"
	"strings"
	"testing"

	"belvedere/api"
	"belvedere/files"
)

const (
	mostFiles = 64
	mostSteps = 4096
)

// holds tells whether an error is just that number.
func holds(err error, want api.Errno) bool {
	var got api.Errno
	return errors.As(err, &got) && got == want
}

// fails asks for just that error of a call.
func fails(t *testing.T, call string, err error, want api.Errno) {
	t.Helper()
	if !holds(err, want) {
		t.Errorf("%s: %v, not %v", call, err, want)
	}
}

// done asks that calls went well.
func done(t *testing.T, errs ...error) {
	t.Helper()
	for i, err := range errs {
		if err != nil {
			t.Fatalf("call %d: %v", i, err)
		}
	}
}

// told is all files by their names, as "name=bytes" with blanks between.
func told(t *testing.T, d *files.Disk) string {
	t.Helper()
	var l []string
	for _, name := range d.Names() {
		b, err := d.Read(name)
		if err != nil {
			t.Errorf("Read(%q): %v", name, err)
		}
		l = append(l, name+"="+string(b))
	}
	return strings.Join(l, " ")
}

// are asks for just these files, and so many steps.
func are(t *testing.T, d *files.Disk, want string, steps int) {
	t.Helper()
	if got := told(t, d); got != want {
		t.Errorf("files: %q, not %q", got, want)
	}
	if got := d.Pending(); got != steps {
		t.Errorf("Pending: %d, not %d", got, steps)
	}
}

// disk is one with files "name=bytes", all of them sure.
func disk(t *testing.T, sure ...string) *files.Disk {
	t.Helper()
	d := files.New()
	for _, s := range sure {
		name, b, _ := strings.Cut(s, "=")
		done(t, d.Write(name, []byte(b)))
	}
	done(t, d.Sync())
	return d
}

// filled is a disk with so many sure files, f0 and so on.
func filled(t *testing.T, n int) *files.Disk {
	t.Helper()
	d := files.New()
	for i := range n {
		done(t, d.Write(fmt.Sprint("f", i), []byte{byte(i)}))
	}
	done(t, d.Sync())
	return d
}

// worn is a disk with the files a=x and b=y, and so many steps.
func worn(t *testing.T, steps int) *files.Disk {
	t.Helper()
	d := disk(t, "a=x", "b=y")
	for range steps {
		done(t, d.Write("a", []byte("x")))
	}
	return d
}

// wrongNames can be no file's.
func wrongNames() []string {
	l := []string{"", strings.Repeat("a", 33), strings.Repeat("a", 1<<16), "A", "Z", "aB", "a b", " a", "a ", "a/b", "a_b", "a\x00", "\x00", "ä", "é.1", "aé", "\xff", "a\xc3", "\xc3\xa4", "a\n", "٣", "ａ"}
	for c := range 256 {
		if !strings.ContainsRune("abcdefghijklmnopqrstuvwxyz0123456789.-", rune(c)) || c >= 128 {
			one := string([]byte{byte(c)})
			l = append(l, one, "a"+one, one+"a", strings.Repeat("a", 31)+one)
		}
	}
	return l
}

// rightNames may be a file's.
func rightNames() []string {
	l := []string{"a", "z", "0", "9", ".", "-", "..", "--", "a.b-c", "0.9", strings.Repeat("a", 32), strings.Repeat(".", 32), strings.Repeat("-9", 16)}
	for _, c := range "abcdefghijklmnopqrstuvwxyz0123456789.-" {
		l = append(l, string(c), "a"+string(c))
	}
	return l
}

// FS1: a new disk has nothing.
func TestNewHasNothing(t *testing.T) {
	d := files.New()
	are(t, d, "", 0)
	_, err := d.Read("a")
	fails(t, "Read", err, api.ErrNone)
	fails(t, "Remove", d.Remove("a"), api.ErrNone)
	fails(t, "Rename", d.Rename("a", "b"), api.ErrNone)
	done(t, d.Sync(), d.Crash(0, 0), d.Crash(0, 1))
	are(t, d, "", 0)
}

// FS1: what stands for a name, at every call that has one.
func TestNames(t *testing.T) {
	for _, name := range rightNames() {
		d := disk(t, "from=f")
		done(t, d.Write(name, []byte("x")))
		if b, err := d.Read(name); err != nil || string(b) != "x" {
			t.Errorf("Read(%q): %q, %v", name, b, err)
		}
		done(t, d.Remove(name), d.Rename("from", name))
		are(t, d, name+"=f", 3)
		done(t, d.Rename(name, "to"))
		are(t, d, "to=f", 4)
	}
}

// FS1: what can be no name, at every call that has one; nothing is changed, and nothing is a step.
func TestWrongNames(t *testing.T) {
	d := disk(t, "a=x")
	for _, name := range wrongNames() {
		call := fmt.Sprintf("of %.40q", name)
		fails(t, "Write "+call, d.Write(name, nil), api.ErrName)
		fails(t, "Rename from "+call, d.Rename(name, "a"), api.ErrName)
		fails(t, "Rename to "+call, d.Rename("a", name), api.ErrName)
		fails(t, "Rename both "+call, d.Rename(name, name), api.ErrName)
		fails(t, "Remove "+call, d.Remove(name), api.ErrName)
		b, err := d.Read(name)
		fails(t, "Read "+call, err, api.ErrName)
		if len(b) != 0 {
			t.Errorf("Read %s: %q beside an error", call, b)
		}
	}
	are(t, d, "a=x", 0)
}

// FS1: a file is what was written last, whatever bytes these are.
func TestWriteAndRead(t *testing.T) {
	d := files.New()
	long := bytes.Repeat([]byte{0, 255, 'x', '\n'}, api.MaxText/4)
	for i, b := range [][]byte{nil, {}, {0}, []byte("abc"), long, long[1:], []byte("a"), nil} {
		done(t, d.Write("a", b), d.Write("b", []byte("other")))
		got, err := d.Read("a")
		if err != nil || !bytes.Equal(got, b) {
			t.Errorf("Read of %d bytes: %d bytes, %v", len(b), len(got), err)
		}
		if want := 2 * (i + 1); d.Pending() != want {
			t.Errorf("Pending: %d, not %d", d.Pending(), want)
		}
	}
	are(t, d, "a= b=other", 16)
}

// FS1: a file of MaxText bytes, and ones that are longer.
func TestWriteTooLong(t *testing.T) {
	d := disk(t, "a=x")
	most := make([]byte, api.MaxText)
	done(t, d.Write("b", most), d.Remove("b"))
	for _, more := range []int{1, 2, api.MaxText} {
		b := make([]byte, api.MaxText+more)
		fails(t, "Write", d.Write("a", b), api.ErrLong)
		fails(t, "Write", d.Write("b", b), api.ErrLong)
	}
	are(t, d, "a=x", 2)
}

// FS1: 64 files, and no new one behind them, till there is room again.
func TestSixtyFourFiles(t *testing.T) {
	d := filled(t, mostFiles)
	if n := len(d.Names()); n != mostFiles {
		t.Fatalf("%d files", n)
	}
	fails(t, "Write", d.Write("new", nil), api.ErrFull)
	are(t, d, told(t, filled(t, mostFiles)), 0)
	done(t, d.Write("f7", []byte("again")), d.Rename("f7", "new"))
	fails(t, "Write", d.Write("f7", nil), api.ErrFull)
	done(t, d.Rename("new", "f8"), d.Write("f7", nil))
	fails(t, "Write", d.Write("new", nil), api.ErrFull)
	done(t, d.Remove("f9"), d.Write("new", []byte("n")))
	fails(t, "Write", d.Write("f9", nil), api.ErrFull)
	if b, err := d.Read("new"); len(d.Names()) != mostFiles || string(b) != "n" || err != nil {
		t.Errorf("%d files, new=%q, %v", len(d.Names()), b, err)
	}
}

// FS1: it is the files there are that count, not those that are sure.
func TestRoomIsOfFilesThatAreThere(t *testing.T) {
	d := filled(t, mostFiles)
	done(t, d.Remove("f0"), d.Crash(0, 0))
	fails(t, "Write", d.Write("new", nil), api.ErrFull)
	done(t, d.Remove("f0"), d.Write("new", nil), d.Crash(1, 0))
	if n := len(d.Names()); n != mostFiles-1 {
		t.Errorf("%d files", n)
	}
	done(t, d.Write("other", nil))
	fails(t, "Write", d.Write("new", nil), api.ErrFull)
}

// FS1: the 4,096th step, and the one behind it, of each of the three calls.
func TestMostSteps(t *testing.T) {
	calls := map[string]func(d *files.Disk) error{
		"Write":           func(d *files.Disk) error { return d.Write("a", []byte("new")) },
		"Write a new one": func(d *files.Disk) error { return d.Write("c", nil) },
		"Rename":          func(d *files.Disk) error { return d.Rename("a", "b") },
		"Rename to own":   func(d *files.Disk) error { return d.Rename("a", "a") },
		"Remove":          func(d *files.Disk) error { return d.Remove("a") },
	}
	for name, call := range calls {
		done(t, call(worn(t, mostSteps-1)))
		d := worn(t, mostSteps)
		fails(t, name, call(d), api.ErrFull)
		are(t, d, "a=x b=y", mostSteps)
		done(t, d.Sync(), call(d))
		if d.Pending() != 1 {
			t.Errorf("%s: Pending %d", name, d.Pending())
		}
		d = worn(t, mostSteps)
		done(t, d.Crash(mostSteps, 0), call(d))
	}
	d := worn(t, mostSteps-1)
	done(t, d.Rename("a", "b"))
	are(t, d, "b=x", mostSteps)
	fails(t, "Remove", d.Remove("b"), api.ErrFull)
}

// FS1: a file that is not there is not renamed, removed or read.
func TestNoSuchFile(t *testing.T) {
	d := disk(t, "a=x", "gone=y", "moved=z")
	done(t, d.Remove("gone"), d.Rename("moved", "there"))
	for _, name := range []string{"b", "gone", "moved", "a.", "aa"} {
		fails(t, "Rename", d.Rename(name, "c"), api.ErrNone)
		fails(t, "Rename", d.Rename(name, "a"), api.ErrNone)
		fails(t, "Rename", d.Rename(name, name), api.ErrNone)
		fails(t, "Remove", d.Remove(name), api.ErrNone)
		b, err := d.Read(name)
		fails(t, "Read", err, api.ErrNone)
		if len(b) != 0 {
			t.Errorf("Read: %q beside an error", b)
		}
	}
	are(t, d, "a=x there=z", 2)
}

// FS1: a file renamed to a new name, to one that is there, and to its own.
func TestRename(t *testing.T) {
	d := disk(t, "a=x", "b=y")
	done(t, d.Rename("a", "c"))
	are(t, d, "b=y c=x", 1)
	done(t, d.Rename("c", "b"))
	are(t, d, "b=x", 2)
	done(t, d.Rename("b", "b"))
	are(t, d, "b=x", 3)
	done(t, d.Crash(3, 0))
	are(t, d, "b=x", 0)
	done(t, d.Rename("b", "b"), d.Rename("b", "a"), d.Crash(1, 1))
	are(t, d, "b=x", 0)
}

// FS1: a file that is removed is gone, and may be written again.
func TestRemove(t *testing.T) {
	d := disk(t, "a=x", "b=y")
	done(t, d.Remove("a"))
	are(t, d, "b=y", 1)
	done(t, d.Write("a", []byte("z")), d.Remove("b"))
	are(t, d, "a=z", 3)
	done(t, d.Remove("a"))
	are(t, d, "", 4)
}

// FS1: names are told by their bytes, not in the order in which they came.
func TestNamesByTheirBytes(t *testing.T) {
	want := []string{"-", "-a", ".", "..", "0", "10", "9", "a", "a-", "a.", "a0", "aa", "ab", "b", "z"}
	d := files.New()
	for i := range want {
		done(t, d.Write(want[(i*7+3)%len(want)], nil))
	}
	if got := d.Names(); !slices.Equal(got, want) {
		t.Errorf("Names: %q, not %q", got, want)
	}
}

// FS1: where more than one error holds, it is the one that the rule names first.
func TestErrorsInTheirOrder(t *testing.T) {
	long := make([]byte, api.MaxText+1)
	d := filled(t, mostFiles)
	fails(t, "Write of a wrong name, too long", d.Write("A", long), api.ErrName)
	fails(t, "Write of a wrong name, no room for files", d.Write("A", nil), api.ErrName)
	fails(t, "Write too long, no room for files", d.Write("new", long), api.ErrLong)
	for range mostSteps {
		done(t, d.Write("f0", nil))
	}
	fails(t, "Write of a wrong name, too long, no room", d.Write("A", long), api.ErrName)
	fails(t, "Write of a wrong name, no room", d.Write("", nil), api.ErrName)
	fails(t, "Write too long, no room", d.Write("f0", long), api.ErrLong)
	fails(t, "Write, no room of both kinds", d.Write("new", nil), api.ErrFull)
	fails(t, "Rename of a wrong name, no room", d.Rename("A", "f1"), api.ErrName)
	fails(t, "Rename to a wrong name, no room", d.Rename("f1", "A"), api.ErrName)
	fails(t, "Rename of none to a wrong name", d.Rename("none", "A"), api.ErrName)
	fails(t, "Rename of none, no room", d.Rename("none", "f1"), api.ErrNone)
	fails(t, "Remove of a wrong name, no room", d.Remove("A"), api.ErrName)
	fails(t, "Remove of none, no room", d.Remove("none"), api.ErrNone)
	if d.Pending() != mostSteps || len(d.Names()) != mostFiles {
		t.Errorf("%d steps, %d files", d.Pending(), len(d.Names()))
	}
}

// FS2: with none, some and all of the steps kept; what is left behind a crash is sure.
func TestCrashKeepsTheFirstSteps(t *testing.T) {
	want := []string{"a=x b=y", "a=x b=new", "b=x", "b=x c=z", "c=x", ""}
	for steps, w := range want {
		d := disk(t, "a=x", "b=y")
		done(t, d.Write("b", []byte("new")), d.Rename("a", "b"), d.Write("c", []byte("z")), d.Rename("b", "c"), d.Remove("c"))
		are(t, d, "", 5)
		done(t, d.Crash(steps, 0))
		are(t, d, w, 0)
		done(t, d.Write("d", nil), d.Crash(0, 0))
		are(t, d, w, 0)
	}
}

// FS2: with a part of a write of 0, some, all and more of its bytes, of a new file and of one that is there.
func TestCrashWithinAWrite(t *testing.T) {
	for _, c := range []struct {
		name string
		part int
		want string
	}{
		{"a", 0, "a=before"},
		{"a", 1, "a=n"},
		{"a", 2, "a=ne"},
		{"a", 3, "a=new"},
		{"a", 4, "a=new"},
		{"a", math.MaxInt, "a=new"},
		{"b", 0, "a=before"},
		{"b", 1, "a=before b=n"},
		{"b", 2, "a=before b=ne"},
		{"b", 3, "a=before b=new"},
		{"b", 4, "a=before b=new"},
		{"b", math.MaxInt, "a=before b=new"},
	} {
		d := disk(t, "a=before")
		done(t, d.Write(c.name, []byte("new")), d.Write("later", []byte("l")), d.Crash(0, c.part))
		are(t, d, c.want, 0)
		done(t, d.Write("later", []byte("l")), d.Crash(0, 0))
		are(t, d, c.want, 0)
	}
}

// FS2: a part of a write of no bytes is that write, and the part's write is behind the steps that are kept.
func TestCrashWithinAWriteOfNothing(t *testing.T) {
	d := disk(t, "a=x")
	done(t, d.Write("a", nil), d.Crash(0, 0))
	are(t, d, "a=x", 0)
	done(t, d.Write("a", nil), d.Crash(0, 1))
	are(t, d, "a=", 0)
	done(t, d.Write("b", nil), d.Write("c", nil), d.Crash(1, 1))
	are(t, d, "a= b= c=", 0)
	done(t, d.Write("a", []byte("123")), d.Rename("a", "b"), d.Write("b", []byte("456")), d.Crash(2, 2))
	are(t, d, "b=45 c=", 0)
}

// FS2: a part where the next step is no Write, or there is none, leaves nothing of it.
func TestCrashWithinNoWrite(t *testing.T) {
	for _, part := range []int{0, 1, 2, math.MaxInt} {
		d := disk(t, "a=x", "b=y")
		done(t, d.Rename("a", "b"), d.Write("a", []byte("z")), d.Crash(0, part))
		are(t, d, "a=x b=y", 0)
		done(t, d.Rename("a", "a"), d.Write("a", []byte("z")), d.Crash(0, part))
		are(t, d, "a=x b=y", 0)
		done(t, d.Remove("a"), d.Write("a", []byte("z")), d.Crash(0, part))
		are(t, d, "a=x b=y", 0)
		done(t, d.Write("a", []byte("z")), d.Remove("a"), d.Crash(1, part))
		are(t, d, "a=z b=y", 0)
		done(t, d.Write("a", []byte("more")), d.Crash(1, part))
		are(t, d, "a=more b=y", 0)
		done(t, d.Crash(0, part))
		are(t, d, "a=more b=y", 0)
	}
}

// FS2: steps below 0 and above Pending, and a part below 0, change nothing.
func TestCrashOfWrongNumbers(t *testing.T) {
	d := disk(t, "a=x")
	done(t, d.Write("a", []byte("y")), d.Remove("a"))
	for _, c := range [][2]int{{-1, 0}, {math.MinInt, 0}, {3, 0}, {4, 0}, {math.MaxInt, 0}, {0, -1}, {2, -1}, {1, math.MinInt}, {-1, -1}, {3, -1}, {3, 1}} {
		fails(t, fmt.Sprint("Crash", c), d.Crash(c[0], c[1]), api.ErrArg)
		are(t, d, "", 2)
	}
	done(t, d.Crash(1, 5))
	are(t, d, "a=y", 0)
	fails(t, "Crash", d.Crash(1, 0), api.ErrArg)
	fails(t, "Crash", files.New().Crash(1, 0), api.ErrArg)
}

// FS2: behind a Sync all is sure, and there are no steps; what failed is none.
func TestSync(t *testing.T) {
	d := files.New()
	done(t, d.Write("a", []byte("x")))
	fails(t, "Remove", d.Remove("b"), api.ErrNone)
	_, err := d.Read("b")
	fails(t, "Read", err, api.ErrNone)
	done(t, d.Write("b", []byte("y")), d.Rename("b", "c"), d.Remove("a"))
	are(t, d, "c=y", 4)
	done(t, d.Sync())
	are(t, d, "c=y", 0)
	done(t, d.Sync(), d.Crash(0, 0))
	are(t, d, "c=y", 0)
}

// FS3: what was synced is there behind every crash, till it is written, renamed or removed.
func TestSyncedSurvives(t *testing.T) {
	for steps := range 7 {
		for part := range 4 {
			d := disk(t, "keep=kept", "a=x", "b=y")
			done(t, d.Write("a", []byte("new")), d.Write("c", []byte("c")), d.Rename("b", "c"), d.Remove("c"), d.Write("d", []byte("d")), d.Remove("a"))
			done(t, d.Crash(steps, part))
			if got := told(t, d); !strings.Contains(" "+got+" ", " keep=kept ") {
				t.Errorf("Crash(%d, %d): %q", steps, part, got)
			}
			done(t, d.Write("d", nil), d.Crash(0, 0), d.Remove("keep"), d.Crash(0, 3))
			if b, err := d.Read("keep"); string(b) != "kept" || err != nil {
				t.Errorf("Crash(%d, %d) and others: %q, %v", steps, part, b, err)
			}
			done(t, d.Remove("keep"), d.Crash(1, 0))
			_, err := d.Read("keep")
			fails(t, "Read", err, api.ErrNone)
		}
	}
}

// FS1 to FS3: a nil Disk answers ErrArg and nothing, at every call and whatever else is wrong.
func TestNilDisk(t *testing.T) {
	var d *files.Disk
	for _, name := range []string{"a", "", "A"} {
		fails(t, "Write", d.Write(name, nil), api.ErrArg)
		fails(t, "Write", d.Write(name, make([]byte, api.MaxText+1)), api.ErrArg)
		fails(t, "Rename", d.Rename(name, "b"), api.ErrArg)
		fails(t, "Rename", d.Rename("b", name), api.ErrArg)
		fails(t, "Remove", d.Remove(name), api.ErrArg)
		b, err := d.Read(name)
		fails(t, "Read", err, api.ErrArg)
		if len(b) != 0 {
			t.Errorf("Read: %q", b)
		}
	}
	fails(t, "Sync", d.Sync(), api.ErrArg)
	fails(t, "Crash", d.Crash(0, 0), api.ErrArg)
	fails(t, "Crash", d.Crash(-1, -1), api.ErrArg)
	if len(d.Names()) != 0 || d.Pending() != 0 {
		t.Errorf("Names: %q, Pending: %d", d.Names(), d.Pending())
	}
}

// spoil writes over bytes, their spare room too.
func spoil(b []byte) {
	b = b[:cap(b)]
	for i := range b {
		b[i] = '!'
	}
}

// FS1, FS2: what is handed in is not changed and not kept: not in what is there, and not in the steps.
func TestHandedInIsNotKept(t *testing.T) {
	d := files.New()
	b := append(make([]byte, 0, 8), "abcd"...)
	done(t, d.Write("a", b), d.Sync(), d.Write("b", b), d.Write("c", b[:2]), d.Write("d", b))
	if string(b[:8]) != "abcd\x00\x00\x00\x00" {
		t.Errorf("%q was changed", b[:8])
	}
	spoil(b)
	are(t, d, "a=abcd b=abcd c=ab d=abcd", 3)
	done(t, d.Crash(2, 3))
	are(t, d, "a=abcd b=abcd c=ab d=abc", 0)
}

// FS1, FS2: what is answered is new memory, each time.
func TestAnswersAreNew(t *testing.T) {
	d := disk(t, "a=abcd", "b=efgh")
	done(t, d.Write("c", []byte("ijkl")))
	want := told(t, d)
	for range 2 {
		for _, name := range d.Names() {
			b, err := d.Read(name)
			done(t, err)
			spoil(b)
		}
		l := d.Names()
		for i := range l[:cap(l)] {
			l[:cap(l)][i] = "spoilt"
		}
		are(t, d, want, 1)
	}
	done(t, d.Crash(0, 3))
	are(t, d, "a=abcd b=efgh c=ijk", 0)
	b, _ := d.Read("c")
	spoil(b)
	done(t, d.Write("d", nil), d.Crash(0, 0))
	are(t, d, "a=abcd b=efgh c=ijk", 0)
}

// Rule 4: disks have nothing to do with one another.
func TestDisksAreAlone(t *testing.T) {
	d, e := files.New(), files.New()
	done(t, d.Write("a", []byte("x")), e.Write("b", []byte("y")), d.Sync(), e.Crash(0, 0))
	are(t, d, "a=x", 0)
	are(t, e, "", 0)
}

// plain is a disk as the chapter tells it: what is sure, and the steps behind it, gone over anew each time.
type plain struct {
	sure  []file
	steps []step
}

type file struct{ name, b string }

// step is a write of b, or where there is a call, a renaming or a removal.
type step struct{ call, name, b string }

// without is files without the one of a name.
func without(l []file, name string) []file {
	var out []file
	for _, f := range l {
		if f.name != name {
			out = append(out, f)
		}
	}
	return out
}

// find is the bytes of a file, and whether there is one.
func find(l []file, name string) (string, bool) {
	for _, f := range l {
		if f.name == name {
			return f.b, true
		}
	}
	return "", false
}

// after is files behind steps.
func after(l []file, steps ...step) []file {
	for _, s := range steps {
		was, _ := find(l, s.name)
		switch s.call {
		case "write":
			l = append(without(l, s.name), file{s.name, s.b})
		case "rename":
			l = append(without(without(l, s.name), s.b), file{s.b, was})
		default:
			l = without(l, s.name)
		}
	}
	return l
}

// do takes a step, and tells which error it has, 0 for none.
func (p *plain) do(s step) api.Errno {
	now := after(p.sure, p.steps...)
	_, there := find(now, s.name)
	if s.call == "write" && !there && len(now) >= mostFiles {
		return api.ErrFull
	}
	if s.call != "write" && !there {
		return api.ErrNone
	}
	p.steps = append(p.steps, s)
	return 0
}

// crash leaves some steps, and some of the next one.
func (p *plain) crash(steps, part int) {
	left := append([]step(nil), p.steps[:steps]...)
	if steps < len(p.steps) && part > 0 && p.steps[steps].call == "write" {
		s := p.steps[steps]
		s.b = s.b[:min(part, len(s.b))]
		left = append(left, s)
	}
	p.sure, p.steps = after(p.sure, left...), nil
}

// told is as a disk's files are told.
func (p *plain) told() string {
	var l []string
	now := after(p.sure, p.steps...)
	slices.SortFunc(now, func(f, g file) int { return strings.Compare(f.name, g.name) })
	for _, f := range now {
		l = append(l, f.name+"="+f.b)
	}
	return strings.Join(l, " ")
}

// run does one step by chance to both, and asks for the same error.
func run(t *testing.T, r *rand.Rand, d *files.Disk, p *plain, names int) {
	t.Helper()
	s := step{call: "write", name: fmt.Sprint(r.Intn(names)), b: strings.Repeat(fmt.Sprint(r.Intn(10)), r.Intn(5))}
	var err error
	switch r.Intn(9) {
	case 0:
		s.call = "remove"
		err = d.Remove(s.name)
	case 1, 2:
		s.call, s.b = "rename", fmt.Sprint(r.Intn(names))
		err = d.Rename(s.name, s.b)
	default:
		err = d.Write(s.name, []byte(s.b))
	}
	if want := p.do(s); want == 0 && err != nil || want != 0 && !holds(err, want) {
		t.Errorf("%v: %v, not %v", s, err, want)
	}
}

// FS1 to FS3: whatever is done, it is what plain lists give.
func TestAsPlainLists(t *testing.T) {
	r := rand.New(rand.NewSource(3))
	for round := range 160 {
		names := []int{2, 4, 10, 20, 2, 4, 10, 80}[round%8]
		d, p := files.New(), &plain{}
		for range 4 {
			for range r.Intn(3 * names) {
				run(t, r, d, p, names)
			}
			are(t, d, p.told(), len(p.steps))
			if r.Intn(4) == 0 {
				done(t, d.Sync())
				p.crash(len(p.steps), 0)
			} else {
				steps, part := r.Intn(len(p.steps)+1), r.Intn(5)
				done(t, d.Crash(steps, part))
				p.crash(steps, part)
			}
			are(t, d, p.told(), 0)
		}
		if t.Failed() {
			t.Fatalf("in round %d", round)
		}
	}
}
