package word_test

import (
	"math"
	"strings"
	"testing"
	"unsafe"

	"pentimento/word"
)

// text is all bytes, each another one.
func text() string {
	var b [256]byte
	for i := range b {
		b[i] = byte(i)
	}
	return string(b[:])
}

// numbers are those at which a byte more is needed, and their neighbours.
func numbers() []uint64 {
	l := []uint64{0, 1, 2, 127, 128, 0x0102030405060708, 0xF0E0D0C0B0A09080, math.MaxUint64 - 1, math.MaxUint64}
	for bits := 8; bits < 64; bits += 8 {
		n := uint64(1) << bits
		l = append(l, n-2, n-1, n, n+1)
	}
	return l
}

// room: whether n has room in size bytes, told by division.
func room(n uint64, size int) bool {
	for range size {
		n /= 256
	}
	return n == 0
}

// P1.1: Put's bytes, the highest first.
func TestPut(t *testing.T) {
	for _, c := range []struct {
		n    uint64
		size int
		s    string
		is   bool
	}{
		{258, 2, "\x01\x02", true},
		{258, 4, "\x00\x00\x01\x02", true},
		{0, 1, "\x00", true},
		{0, 8, "\x00\x00\x00\x00\x00\x00\x00\x00", true},
		{255, 1, "\xff", true},
		{256, 1, "", false},
		{65535, 2, "\xff\xff", true},
		{65536, 2, "", false},
		{65536, 3, "\x01\x00\x00", true},
		{1<<56 - 1, 7, "\xff\xff\xff\xff\xff\xff\xff", true},
		{1 << 56, 7, "", false},
		{1 << 56, 8, "\x01\x00\x00\x00\x00\x00\x00\x00", true},
		{0x0102030405060708, 8, "\x01\x02\x03\x04\x05\x06\x07\x08", true},
		{math.MaxUint64, 8, "\xff\xff\xff\xff\xff\xff\xff\xff", true},
		{math.MaxUint64, 7, "", false},
		{0, 0, "", false},
		{1, 0, "", false},
		{0, 9, "", false},
		{1, 9, "", false},
		{0, -1, "", false},
		{0, math.MaxInt, "", false},
		{0, math.MinInt, "", false},
	} {
		if s, is := word.Put(c.n, c.size); s != c.s || is != c.is {
			t.Errorf("Put(%d, %d): %q %v, not %q %v", c.n, c.size, s, is, c.s, c.is)
		}
	}
}

// P1.1: Put has a number of each size just if there is room.
func TestPutRoom(t *testing.T) {
	for _, n := range numbers() {
		for size := -2; size <= 11; size++ {
			want := size >= 1 && size <= 8 && room(n, size)
			s, is := word.Put(n, size)
			if is != want {
				t.Errorf("Put(%d, %d): %v, not %v", n, size, is, want)
			}
			if is && len(s) != size || !is && s != "" {
				t.Errorf("Put(%d, %d): %q, %v", n, size, s, is)
			}
		}
	}
}

// P1.1: Get's numbers.
func TestGet(t *testing.T) {
	for _, c := range []struct {
		s        string
		at, size int
		n        uint64
		is       bool
	}{
		{"\x01\x02", 0, 2, 258, true},
		{"\x01\x02", 0, 1, 1, true},
		{"\x01\x02", 1, 1, 2, true},
		{"\x01\x02", 1, 2, 0, false},
		{"\x01\x02", 2, 1, 0, false},
		{"\x01\x02", 3, 1, 0, false},
		{"\x01\x02", -1, 1, 0, false},
		{"\x01\x02", -1, 2, 0, false},
		{"\x01\x02", 0, 3, 0, false},
		{"\x01\x02", 0, 0, 0, false},
		{"\x01\x02", 2, 0, 0, false},
		{"\x01\x02", 0, -1, 0, false},
		{"\x01\x02", 0, math.MinInt, 0, false},
		{"\x01\x02", 0, math.MaxInt, 0, false},
		{"\x01\x02", math.MaxInt, 1, 0, false},
		{"\x01\x02", math.MaxInt, 8, 0, false},
		{"\x01\x02", math.MinInt, 1, 0, false},
		{"", 0, 1, 0, false},
		{"\xff\x01\x02\x03\x04\x05\x06\x07\x08\xff", 1, 8, 0x0102030405060708, true},
		{"\xff\xff\xff\xff\xff\xff\xff\xff", 0, 8, math.MaxUint64, true},
		{"\xff\xff\xff\xff\xff\xff\xff\xff\xff", 0, 9, 0, false},
	} {
		if n, is := word.Get(c.s, c.at, c.size); n != c.n || is != c.is {
			t.Errorf("Get(%q, %d, %d): %d %v, not %d %v", c.s, c.at, c.size, n, is, c.n, c.is)
		}
	}
}

// P1.1: Cut's pieces, from nothing to the whole.
func TestCut(t *testing.T) {
	for _, c := range []struct {
		s        string
		at, size int
		part     string
		is       bool
	}{
		{"abcd", 1, 2, "bc", true},
		{"abcd", 0, 4, "abcd", true},
		{"abcd", 0, 0, "", true},
		{"abcd", 2, 0, "", true},
		{"abcd", 4, 0, "", true},
		{"abcd", 5, 0, "", false},
		{"abcd", 3, 1, "d", true},
		{"abcd", 3, 2, "", false},
		{"abcd", 4, 1, "", false},
		{"abcd", 0, 5, "", false},
		{"abcd", -1, 2, "", false},
		{"abcd", -1, 0, "", false},
		{"abcd", 1, -1, "", false},
		{"abcd", -1, -1, "", false},
		{"abcd", 5, -1, "", false},
		{"abcd", math.MaxInt, 1, "", false},
		{"abcd", math.MaxInt, math.MaxInt, "", false},
		{"abcd", 1, math.MaxInt, "", false},
		{"abcd", math.MinInt, math.MinInt, "", false},
		{"abcd", math.MinInt, 4, "", false},
		{"abcd", 2, math.MinInt, "", false},
		{"", 0, 0, "", true},
		{"", 0, 1, "", false},
		{"", 1, 0, "", false},
		{"\x00\xff\x80", 1, 2, "\xff\x80", true},
		{text(), 10, 9, "\x0a\x0b\x0c\x0d\x0e\x0f\x10\x11\x12", true},
	} {
		if s, is := word.Cut(c.s, c.at, c.size); s != c.part || is != c.is {
			t.Errorf("Cut(%q, %d, %d): %q %v, not %q %v", c.s, c.at, c.size, s, is, c.part, c.is)
		}
	}
}

// P1.2: Set's texts.
func TestSet(t *testing.T) {
	for _, c := range []struct {
		s    string
		at   int
		part string
		out  string
		is   bool
	}{
		{"abcd", 1, "xy", "axyd", true},
		{"abcd", 0, "xy", "xycd", true},
		{"abcd", 2, "xy", "abxy", true},
		{"abcd", 0, "wxyz", "wxyz", true},
		{"abcd", 3, "x", "abcx", true},
		{"abcd", 0, "", "abcd", true},
		{"abcd", 4, "", "abcd", true},
		{"abcd", 5, "", "", false},
		{"abcd", 3, "xy", "", false},
		{"abcd", 4, "x", "", false},
		{"abcd", 0, "vwxyz", "", false},
		{"abcd", -1, "x", "", false},
		{"abcd", -1, "", "", false},
		{"abcd", math.MaxInt, "x", "", false},
		{"abcd", math.MinInt, "x", "", false},
		{"", 0, "", "", true},
		{"", 0, "x", "", false},
		{"", 1, "", "", false},
	} {
		if s, is := word.Set(c.s, c.at, c.part); s != c.out || is != c.is {
			t.Errorf("Set(%q, %d, %q): %q %v, not %q %v", c.s, c.at, c.part, s, is, c.out, c.is)
		}
	}
}

// P1.2: Up at its limits.
func TestUp(t *testing.T) {
	const top = 1 << 62
	for _, c := range []struct{ n, to, out int }{
		{9, 8, 16},
		{8, 8, 8},
		{7, 8, 8},
		{1, 8, 8},
		{1, 1, 1},
		{5, 1, 5},
		{0, 8, 0},
		{-1, 8, 0},
		{-9, 8, 0},
		{9, 0, 0},
		{9, -8, 0},
		{-9, -8, 0},
		{0, 0, 0},
		{top - 1, 1, top - 1},
		{top, 1, 0},
		{top - 8, 8, top - 8},
		{top - 7, 8, 0},
		{top - 9, 8, top - 8},
		{top, 8, 0},
		{1, top - 1, top - 1},
		{2, top - 1, 0},
		{1, top, 0},
		{1, top + 1, 0},
		{top / 2, top / 2, top / 2},
		{top/2 + 1, top / 2, 0},
		{math.MaxInt, 1, 0},
		{1, math.MaxInt, 0},
		{math.MaxInt, math.MaxInt, 0},
		{math.MinInt, 1, 0},
		{1, math.MinInt, 0},
		{math.MinInt, math.MinInt, 0},
	} {
		if out := word.Up(c.n, c.to); out != c.out {
			t.Errorf("Up(%d, %d): %d, not %d", c.n, c.to, out, c.out)
		}
	}
}

// P1.2: Up of small numbers, against a search for the least multiple.
func TestUpLeast(t *testing.T) {
	for n := 1; n <= 100; n++ {
		for to := 1; to <= 40; to++ {
			least := to
			for least < n {
				least += to
			}
			if out := word.Up(n, to); out != least {
				t.Errorf("Up(%d, %d): %d, not %d", n, to, out, least)
			}
		}
	}
}

// P1.3: what was put is got, wherever it stands.
func TestPutIsGot(t *testing.T) {
	for _, n := range numbers() {
		for size := 1; size <= 8; size++ {
			s, is := word.Put(n, size)
			if !is {
				continue
			}
			for ahead := range 5 {
				for behind := range 3 {
					whole := strings.Repeat("\xa5", ahead) + s + strings.Repeat("\x5a", behind)
					if m, is := word.Get(whole, ahead, size); m != n || !is {
						t.Errorf("%d in %d bytes at %d: %d, %v", n, size, ahead, m, is)
					}
				}
			}
		}
	}
}

// P1.3: what was set is cut, and all else is as it was.
func TestSetIsCut(t *testing.T) {
	const s = "0123456789"
	for at := range len(s) + 1 {
		for size := range len(s) - at + 1 {
			part := "ABCDEFGHIJ"[:size]
			out, is := word.Set(s, at, part)
			if !is || len(out) != len(s) {
				t.Fatalf("Set(%q, %d, %q): %q, %v", s, at, part, out, is)
			}
			if got, is := word.Cut(out, at, size); got != part || !is {
				t.Errorf("cut at %d: %q, %v, not %q", at, got, is, part)
			}
			if out[:at] != s[:at] || out[at+size:] != s[at+size:] {
				t.Errorf("Set(%q, %d, %q) changed more: %q", s, at, part, out)
			}
		}
	}
}

// P1.3: greater numbers have greater bytes.
func TestGreaterBytes(t *testing.T) {
	for _, a := range numbers() {
		for _, b := range numbers() {
			for size := 1; size <= 8; size++ {
				x, isX := word.Put(a, size)
				y, isY := word.Put(b, size)
				if isX && isY && (a < b) != (x < y) {
					t.Errorf("%d and %d: %q and %q", a, b, x, y)
				}
			}
		}
	}
}

// R5: an answer shares no memory with an argument, whatever of it is answered.
func TestNewMemory(t *testing.T) {
	s, part := text(), strings.Repeat("z", 256)
	for _, size := range []int{1, 100, 256} {
		out, _ := word.Cut(s, 0, size)
		if len(out) != size || unsafe.StringData(out) == unsafe.StringData(s) {
			t.Errorf("Cut of %d bytes is a piece of the argument", size)
		}
		out, _ = word.Set(s, 0, part[:size])
		if len(out) != len(s) || unsafe.StringData(out) == unsafe.StringData(part) {
			t.Errorf("Set of %d bytes is the part", size)
		}
	}
	out, _ := word.Set(s, 0, "")
	if out != s || unsafe.StringData(out) == unsafe.StringData(s) {
		t.Error("Set of nothing is the argument")
	}
}
