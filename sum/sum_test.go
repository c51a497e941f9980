package sum_test

import (
	"hash/crc32"
	"strings"
	"testing"
	"unsafe"

	"pentimento/sum"
)

// text is n bytes, which look like chance, but are always the same.
func text(n int) string {
	b := make([]byte, n)
	x := uint32(n) + 1
	for i := range b {
		x = x*1664525 + 1013904223
		b[i] = byte(x >> 24)
	}
	return string(b)
}

// row is n bytes from first on, each by step more than the one ahead.
func row(n int, first, step byte) string {
	b := make([]byte, n)
	for i := range b {
		b[i] = first + byte(i)*step
	}
	return string(b)
}

// goneOn: the number c, gone on over s by the chapter's words, bit for bit.
func goneOn(c uint32, s string) uint32 {
	for i := range len(s) {
		c ^= uint32(s[i])
		for range 8 {
			odd := c & 1
			c >>= 1
			if odd == 1 {
				c ^= 0x82F63B78
			}
		}
	}
	return c
}

// lengths are those of the texts that are tried.
func lengths() []int {
	return []int{0, 1, 2, 3, 4, 5, 7, 8, 9, 31, 32, 33, 255, 256, 257, 1000, 4096, 70001}
}

// P2.1: published sums.
func TestOfPublished(t *testing.T) {
	for _, c := range []struct {
		s   string
		sum uint32
	}{
		{"123456789", 0xE3069283},
		{"", 0},
		{"a", 0xC1D04330},
		{"abc", 0x364B3FB7},
		{row(32, 0, 0), 0x8A9136AA},
		{row(32, 0xFF, 0), 0x62A8AB43},
		{row(32, 0, 1), 0x46DD794E},
		{row(32, 31, 0xFF), 0x113FDB5C},
	} {
		if got := sum.Of(c.s); got != c.sum {
			t.Errorf("Of(%q): %#x, not %#x", c.s, got, c.sum)
		}
	}
}

// P2.1: what every byte does, alone, behind another one and as a sum's next one.
func TestEachByte(t *testing.T) {
	for i := range 256 {
		one := string([]byte{byte(i)})
		for _, s := range []string{one, "x" + one, one + one, one + "\x00", "\xff\xff\xff\xff" + one} {
			if got, want := sum.Of(s), ^goneOn(0xFFFFFFFF, s); got != want {
				t.Errorf("Of(%q): %#x, not %#x", s, got, want)
			}
		}
		for _, c := range []uint32{0, 1, 0x80000000, 0x12345678, 0xFFFFFFFF, uint32(i), uint32(i) << 24} {
			if got, want := sum.More(c, one), ^goneOn(^c, one); got != want {
				t.Errorf("More(%#x, %q): %#x, not %#x", c, one, got, want)
			}
		}
	}
}

// P2.1: sums of longer texts, against the chapter's words and against the library's.
func TestOfLong(t *testing.T) {
	castagnoli := crc32.MakeTable(crc32.Castagnoli)
	for _, n := range lengths() {
		s := text(n)
		got := sum.Of(s)
		if want := ^goneOn(0xFFFFFFFF, s); got != want {
			t.Errorf("Of %d bytes: %#x, not %#x", n, got, want)
		}
		if want := crc32.Checksum([]byte(s), castagnoli); got != want {
			t.Errorf("Of %d bytes: %#x, and the library %#x", n, got, want)
		}
	}
}

// P2.1: More from whatever number, one that is no text's sum yet too; over nothing it stays.
func TestMore(t *testing.T) {
	for _, c := range []uint32{0, 1, 2, 0x7FFFFFFF, 0x80000000, 0xDEADBEEF, 0xFFFFFFFE, 0xFFFFFFFF} {
		if got := sum.More(c, ""); got != c {
			t.Errorf("More(%#x, nothing): %#x", c, got)
		}
		for _, n := range lengths() {
			s := text(n)
			if got, want := sum.More(c, s), ^goneOn(^c, s); got != want {
				t.Errorf("More(%#x, %d bytes): %#x, not %#x", c, n, got, want)
			}
		}
	}
}

// P2.2: what a sealed text's bytes are.
func TestSeal(t *testing.T) {
	for _, c := range []struct{ s, sealed string }{
		{"", "\x00\x00\x00\x00"},
		{"a", "a\x30\x43\xd0\xc1"},
		{"123456789", "123456789\x83\x92\x06\xe3"},
		{row(32, 0, 1), row(32, 0, 1) + "\x4e\x79\xdd\x46"},
	} {
		if got := sum.Seal(c.s); got != c.sealed {
			t.Errorf("Seal(%q): %q, not %q", c.s, got, c.sealed)
		}
		if s, is := sum.Open(c.sealed); s != c.s || !is {
			t.Errorf("Open(%q): %q, %v", c.sealed, s, is)
		}
	}
}

// P2.2: texts that are none, some nearly.
func TestOpenNone(t *testing.T) {
	for _, s := range []string{
		"",
		"\x00",
		"\x00\x00",
		"\x00\x00\x00",
		"\x00\x00\x00\x01",
		"\x01\x00\x00\x00",
		"\xff\xff\xff\xff",
		"\x00\x00\x00\x00\x00",
		"\x00\x00\x00\x00\x00\x00\x00\x00",
		"a",
		"abc",
		"abcd",
		"123456789",
		"123456789\x83",
		"123456789\x83\x92\x06",
		"123456789\xe3\x06\x92\x83",
		"123456789\x7c\x6d\xf9\x1c",
		"123456789\x83\x92\x06\xe3\x00",
		"23456789\x83\x92\x06\xe3",
		"\x00123456789\x83\x92\x06\xe3",
		"\x83\x92\x06\xe3123456789",
		"123456798\x83\x92\x06\xe3",
	} {
		if got, is := sum.Open(s); got != "" || is {
			t.Errorf("Open(%q): %q, %v", s, got, is)
		}
	}
}

// P2.2: what is cut or made longer at its end is none.
func TestOpenOtherLengths(t *testing.T) {
	for _, n := range lengths()[:14] {
		whole := sum.Seal(text(n))
		for less := 1; less <= 9 && less <= len(whole); less++ {
			if s, is := sum.Open(whole[:len(whole)-less]); s != "" || is {
				t.Errorf("%d bytes, %d too few: %q, %v", n, less, s, is)
			}
		}
		for _, tail := range []string{"\x00", "\xff", "x", "\x00\x00\x00\x00", "\xff\xff\xff\xff"} {
			if s, is := sum.Open(whole + tail); s != "" || is {
				t.Errorf("%d bytes and %q: %q, %v", n, tail, s, is)
			}
		}
	}
}

// P2.3: the sum of two texts is that of the first, gone on over the second, wherever they are cut.
func TestTwoTexts(t *testing.T) {
	for _, n := range lengths()[:14] {
		s := text(n)
		for i := range n + 1 {
			if got := sum.More(sum.Of(s[:i]), s[i:]); got != sum.Of(s) {
				t.Errorf("%d bytes, cut at %d: %#x, not %#x", n, i, got, sum.Of(s))
			}
		}
	}
}

// P2.3: what was sealed is opened, sealed twice too.
func TestSealedIsOpened(t *testing.T) {
	for _, n := range lengths() {
		s := text(n)
		sealed := sum.Seal(s)
		if len(sealed) != n+4 || sealed[:n] != s {
			t.Errorf("Seal of %d bytes has %d", n, len(sealed))
		}
		if got, is := sum.Open(sealed); got != s || !is {
			t.Errorf("%d bytes: not opened as they were, %v", n, is)
		}
		if got, is := sum.Open(sum.Seal(sealed)); got != sealed || !is {
			t.Errorf("%d bytes, sealed twice: not opened as they were, %v", n, is)
		}
	}
}

// turn: s with the bits turned that are in bits, the lowest one at the place from, counted from each byte's lowest bit on.
func turn(s string, from int, bits uint32) string {
	b := []byte(s)
	for i := range 32 {
		if bits>>i&1 == 1 {
			at := from + i
			b[at/8] ^= 1 << (at % 8)
		}
	}
	return string(b)
}

// bursts are bits that lie within 32 in a row, of which the lowest one is turned.
func bursts() []uint32 {
	l := []uint32{1, 0xFFFFFFFF, 0x82F63B78 | 1, 0x05EC76F1, 0x80000001, 0xAAAAAAAB, 0x55555555, 0x00FF00FF, 0xFF00FF01}
	x := uint32(7)
	for i := range 32 {
		x = x*1664525 + 1013904223
		l = append(l, 1|1<<i, 1|1<<i|(1<<i-1), 1|x>>(31-i))
	}
	return l
}

// P2.3: bits within 32 in a row, turned wherever, in the text, in the sum, and over both.
func TestTurnedBits(t *testing.T) {
	for _, n := range []int{0, 1, 3, 4, 5, 40} {
		sealed := sum.Seal(text(n))
		all := 8 * len(sealed)
		for from := range all {
			for _, bits := range bursts() {
				if all-from < 32 && bits>>(all-from) != 0 {
					continue
				}
				if s, is := sum.Open(turn(sealed, from, bits)); s != "" || is {
					t.Errorf("%d bytes, bits %#x turned from %d on: %q, %v", n, bits, from, s, is)
				}
			}
		}
	}
}

// R5: answers share no memory with arguments.
func TestNewMemory(t *testing.T) {
	for _, n := range []int{1, 2, 100} {
		s := text(n)
		sealed := sum.Seal(s)
		if unsafe.StringData(sealed) == unsafe.StringData(s) {
			t.Errorf("Seal of %d bytes is the argument", n)
		}
		if out, _ := sum.Open(sealed); len(out) != n || unsafe.StringData(out) == unsafe.StringData(sealed) {
			t.Errorf("Open of %d bytes is a piece of the argument", n)
		}
	}
}

// R6: an answer doesn't hang on what was summed before.
func TestSameAgain(t *testing.T) {
	first := sum.Of("123456789")
	sum.More(first, strings.Repeat("z", 300))
	sum.Seal("q")
	sum.Open("q")
	if again := sum.Of("123456789"); again != first {
		t.Errorf("%#x, and again %#x", first, again)
	}
}
