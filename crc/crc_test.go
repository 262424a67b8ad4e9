package crc_test

import (
	"bytes"
	"errors"
	"math/bits"
	"slices"
	"testing"

	"belvedere/api"
	"belvedere/crc"
)

// sumBitByBit is the sum as CR1 tells it, one bit after the other.
func sumBitByBit(b []byte) uint32 {
	register := ^uint32(0)
	for _, x := range b {
		for bit := range 8 {
			told := register & 1
			register >>= 1
			if told != uint32(x>>bit)&1 {
				register ^= 0xedb88320
			}
		}
	}
	return ^register
}

// mixed is so many bytes that look like no pattern, others for each seed, and the same each time.
func mixed(n int, seed uint32) []byte {
	b := make([]byte, n)
	for i := range b {
		seed = seed*1664525 + 1013904223
		b[i] = byte(seed >> 24)
	}
	return b
}

// samples are bytes of all lengths up to some, and of some greater ones.
func samples() [][]byte {
	l := [][]byte{nil, {}, {0}, {0xff}, make([]byte, 1000), bytes.Repeat([]byte{0xff}, 1000)}
	for n := range 70 {
		l = append(l, mixed(n, uint32(n)))
	}
	return append(l, mixed(api.MaxLine, 1), mixed(api.MaxText+1, 2))
}

// holds tells whether an error is just that number.
func holds(err error, want api.Errno) bool {
	var got api.Errno
	return errors.As(err, &got) && got == want
}

// CR1: sums that others have told.
func TestSumOfKnownBytes(t *testing.T) {
	for _, c := range []struct {
		b    string
		want uint32
	}{
		{"", 0},
		{"a", 0xe8b7be43},
		{"abc", 0x352441c2},
		{"123456789", 0xcbf43926},
		{"\x00", 0xd202ef8d},
		{"\xff", 0xff000000},
		{"\x00\x00\x00\x00", 0x2144df1c},
		{"\xff\xff\xff\xff", 0xffffffff},
		{"The quick brown fox jumps over the lazy dog", 0x414fa339},
	} {
		if got := crc.Sum([]byte(c.b)); got != c.want {
			t.Errorf("Sum(%q): %08x, not %08x", c.b, got, c.want)
		}
	}
	if got := crc.Sum(nil); got != 0 {
		t.Errorf("Sum(nil): %08x, not 0", got)
	}
}

// CR1: each byte's bits go in from the lowest on.
func TestSumIsReckonedBitByBit(t *testing.T) {
	for x := range 256 {
		for y := range 256 {
			b := []byte{byte(x), byte(y)}
			if got, want := crc.Sum(b), sumBitByBit(b); got != want {
				t.Fatalf("Sum(%x): %08x, not %08x", b, got, want)
			}
		}
	}
	for _, b := range samples() {
		if got, want := crc.Sum(b), sumBitByBit(b); got != want {
			t.Errorf("Sum of %d bytes: %08x, not %08x", len(b), got, want)
		}
	}
}

// CR1: wherever bytes are cut, the sum of the first with the rest behind is the sum of all.
func TestMoreIsSumOfAll(t *testing.T) {
	for n := range 70 {
		b := mixed(n, 7)
		want := sumBitByBit(b)
		for cut := range n + 1 {
			if got := crc.More(crc.Sum(b[:cut]), b[cut:]); got != want {
				t.Errorf("More of %d bytes, cut at %d: %08x, not %08x", n, cut, got, want)
			}
		}
	}
}

// CR1: going on byte by byte is going on at once.
func TestMoreByteByByte(t *testing.T) {
	b := mixed(3000, 3)
	sum := crc.Sum(nil)
	for i := range b {
		sum = crc.More(sum, b[i:i+1])
	}
	if want := sumBitByBit(b); sum != want {
		t.Errorf("byte by byte: %08x, not %08x", sum, want)
	}
}

// CR1: with nothing behind, any sum stays as it is.
func TestMoreOfNoBytes(t *testing.T) {
	for _, sum := range []uint32{0, 1, 0xff, 0x80000000, 0xcbf43926, 0xedb88320, 0xffffffff} {
		if got := crc.More(sum, nil); got != sum {
			t.Errorf("More(%08x, nil): %08x", sum, got)
		}
		if got := crc.More(sum, []byte{}); got != sum {
			t.Errorf("More(%08x, no bytes): %08x", sum, got)
		}
	}
}

// CR2: what is sealed has its sum behind, the lowest byte first.
func TestSeal(t *testing.T) {
	for _, c := range []struct{ b, want string }{
		{"", "\x00\x00\x00\x00"},
		{"123456789", "123456789\x26\x39\xf4\xcb"},
		{"\x00", "\x00\x8d\xef\x02\xd2"},
		{"\xff", "\xff\x00\x00\x00\xff"},
	} {
		if got := crc.Seal([]byte(c.b)); string(got) != c.want {
			t.Errorf("Seal(%q): %q, not %q", c.b, got, c.want)
		}
	}
	if got := crc.Seal(nil); string(got) != "\x00\x00\x00\x00" {
		t.Errorf("Seal(nil): %q", got)
	}
}

// CR2: what is sealed is opened as itself.
func TestOpenIsWhatWasSealed(t *testing.T) {
	for _, b := range samples() {
		sealed := crc.Seal(b)
		if len(sealed) != len(b)+4 {
			t.Errorf("Seal of %d bytes: %d", len(b), len(sealed))
		}
		got, err := crc.Open(sealed)
		if err != nil || !bytes.Equal(got, b) {
			t.Errorf("Open of %d bytes sealed: %d bytes, %v", len(b), len(got), err)
		}
	}
}

// CR2: sealed twice is opened twice.
func TestOpenTwice(t *testing.T) {
	for _, b := range samples() {
		once, err := crc.Open(crc.Seal(crc.Seal(b)))
		if err != nil || !bytes.Equal(once, crc.Seal(b)) {
			t.Errorf("%d bytes sealed twice, opened once: %d bytes, %v", len(b), len(once), err)
		}
	}
}

// CR2: fewer than four bytes end too soon, whatever they are.
func TestOpenTooShort(t *testing.T) {
	short := [][]byte{nil, {}, {0}, {0, 0}, {0, 0, 0}, {0xff, 0xff, 0xff}, crc.Seal(nil)[:3], crc.Seal([]byte("a"))[:3]}
	for _, b := range short {
		got, err := crc.Open(b)
		if !holds(err, api.ErrEnd) || len(got) != 0 {
			t.Errorf("Open(%x): %x, %v", b, got, err)
		}
	}
}

// CR2: the last four bytes have to be the sum, in their order.
func TestOpenWrongSum(t *testing.T) {
	for _, b := range []string{
		"\x00\x00\x00\x01",
		"\xff\xff\xff\xff",
		"\x01\x00\x00\x00",
		"123456789\xcb\xf4\x39\x26",
		"123456789\xd9\xc6\x0b\x34",
		"123456788\x26\x39\xf4\xcb",
		"\x26\x39\xf4\xcb123456789",
		"\x00\x00\x00\x00\x00",
		"123456789\x26\x39\xf4",
		"123456789\x26\x39\xf4\xcb\x00",
	} {
		got, err := crc.Open([]byte(b))
		if !holds(err, api.ErrSum) || len(got) != 0 {
			t.Errorf("Open(%q): %x, %v", b, got, err)
		}
	}
}

// CR2: each of the four bytes of the sum counts.
func TestOpenEachByteOfSumCounts(t *testing.T) {
	for _, b := range samples() {
		for i := range 4 {
			sealed := crc.Seal(b)
			sealed[len(b)+i]++
			got, err := crc.Open(sealed)
			if !holds(err, api.ErrSum) || len(got) != 0 {
				t.Errorf("%d bytes, byte %d of the sum changed: %x, %v", len(b), i, got, err)
			}
		}
	}
}

// CR1, CR2: what is handed in is not changed, its spare room neither, and no answer shares it.
func TestHandedInIsNotChanged(t *testing.T) {
	for n := range 40 {
		room := append(crc.Seal(mixed(n, 5)), mixed(40, 6)...)
		kept := slices.Clone(room)
		body, sealed := room[:n], room[:n+4]
		crc.Sum(body)
		crc.More(1, body)
		crc.Open(room[:n+5])
		answers := [][]byte{crc.Seal(body), crc.Seal(body)}
		for range 2 {
			b, err := crc.Open(sealed)
			if err != nil {
				t.Fatalf("Open of %d bytes sealed: %v", n, err)
			}
			answers = append(answers, b)
		}
		for i, b := range answers {
			b = b[:cap(b)]
			for j := range b {
				b[j] = byte(0xa0 + i)
			}
		}
		if !bytes.Equal(room, kept) {
			t.Errorf("%d bytes: what was handed in was changed", n)
		}
		for i, b := range answers {
			for _, x := range b[:cap(b)] {
				if x != byte(0xa0+i) {
					t.Fatalf("%d bytes: two answers share memory", n)
				}
			}
		}
	}
}

// bursts are bits that are changed together, the lowest of them always; the widest spans 32.
func bursts() []uint32 {
	var l []uint32
	for m := uint32(1); m < 1<<9; m += 2 {
		l = append(l, m)
	}
	for width := 10; width <= 32; width++ {
		ends := uint32(1)<<(width-1) | 1
		l = append(l, ends, ^uint32(0)>>(32-width))
		for seed := range uint32(4) {
			inner := uint32(0)
			for _, x := range mixed(4, seed*40+uint32(width)) {
				inner = inner<<8 | uint32(x)
			}
			l = append(l, ends|inner>>(32-width))
		}
	}
	return append(l, 0xedb88321, 0x04c11db7, 0x82608edb, 0xdb710641)
}

// change turns the bits of a burst from some bit on, each byte's lowest first.
func change(b []byte, from int, burst uint32) {
	for bit := range bits.Len32(burst) {
		at := from + bit
		b[at/8] ^= byte(burst>>bit&1) << (at % 8)
	}
}

// CR3: whatever is changed within 32 bits, in the bytes, in their sum or across both, is found.
func TestBurstIsNotOpened(t *testing.T) {
	for _, n := range []int{0, 1, 2, 3, 4, 5, 8, 17, 40} {
		sealed := crc.Seal(mixed(n, 11))
		for _, burst := range bursts() {
			for from := 0; from+bits.Len32(burst) <= 8*len(sealed); from++ {
				changed := slices.Clone(sealed)
				change(changed, from, burst)
				got, err := crc.Open(changed)
				if !holds(err, api.ErrSum) || len(got) != 0 {
					t.Fatalf("%d bytes, %08x changed from bit %d on: %x, %v", n, burst, from, got, err)
				}
			}
		}
	}
}

// CR3: one bit changed is found in long texts too.
func TestOneBitIsNotOpened(t *testing.T) {
	sealed := crc.Seal(mixed(1000, 12))
	for at := range 8 * len(sealed) {
		change(sealed, at, 1)
		if _, err := crc.Open(sealed); !holds(err, api.ErrSum) {
			t.Fatalf("bit %d changed: %v", at, err)
		}
		change(sealed, at, 1)
	}
}
