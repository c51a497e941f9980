package slot_test

import (
	"math"
	"strings"
	"testing"
	"unsafe"

	"pentimento/api"
	"pentimento/slot"
)

// made is an area of so many bytes, without texts.
func made(t *testing.T, size int) *slot.Area {
	t.Helper()
	a, e := slot.New(size)
	if a == nil || e != api.OK {
		t.Fatalf("New(%d): %v, %v", size, a, e)
	}
	return a
}

// loaded is the area that has these bytes.
func loaded(t *testing.T, s string) *slot.Area {
	t.Helper()
	a, e := slot.Load(s)
	if a == nil || e != api.OK {
		t.Fatalf("Load(%q): %v, %v", s, a, e)
	}
	return a
}

// with is an area of so many bytes, into which the texts were put, one behind the other.
func with(t *testing.T, size int, texts ...string) *slot.Area {
	t.Helper()
	a := made(t, size)
	for i, s := range texts {
		is(t, "Put of "+s, a.Put(i, s), api.OK)
	}
	return a
}

// numbers is the bytes of numbers, two of each.
func numbers(l ...int) string {
	var b []byte
	for _, n := range l {
		b = append(b, byte(n>>8), byte(n))
	}
	return string(b)
}

// zeros is so many bytes 0.
func zeros(n int) string { return strings.Repeat("\x00", n) }

// is fails, unless e is the error that is wanted.
func is(t *testing.T, what string, e, want api.Errno) {
	t.Helper()
	if e != want {
		t.Errorf("%s: %v, not %v", what, e, want)
	}
}

// has fails, unless the area has these bytes, and these are loaded as it.
func has(t *testing.T, what string, a *slot.Area, want string) {
	t.Helper()
	if s := a.Bytes(); s != want {
		t.Errorf("%s: %q, not %q", what, s, want)
	}
	b, e := slot.Load(want)
	if b == nil || e != api.OK {
		t.Errorf("%s: Load: %v", what, e)
	} else if b.Bytes() != want || b.Len() != a.Len() || b.Free() != a.Free() || b.Gap() != a.Gap() {
		t.Errorf("%s: %q, %d, %d, %d when loaded", what, b.Bytes(), b.Len(), b.Free(), b.Gap())
	}
}

// counts fails, unless there are so many texts, and so many bytes are free and in the gap.
func counts(t *testing.T, what string, a *slot.Area, n, free, gap int) {
	t.Helper()
	if a.Len() != n || a.Free() != free || a.Gap() != gap {
		t.Errorf("%s: %d texts, %d free, a gap of %d, not %d, %d, %d", what, a.Len(), a.Free(), a.Gap(), n, free, gap)
	}
}

// holds fails, unless the area's texts are these.
func holds(t *testing.T, what string, a *slot.Area, want ...string) {
	t.Helper()
	if a.Len() != len(want) {
		t.Errorf("%s: %d texts, not %d", what, a.Len(), len(want))
	}
	for i, w := range want {
		if s, e := a.Get(i); s != w || e != api.OK {
			t.Errorf("%s: text %d: %q, %v, not %q", what, i, s, e, w)
		}
	}
	for _, i := range []int{-1, len(want), len(want) + 1, math.MaxInt, math.MinInt} {
		if s, e := a.Get(i); s != "" || e != api.ErrNone {
			t.Errorf("%s: text %d: %q, %v", what, i, s, e)
		}
	}
}

// P5.1: an area has 16 to 4096 bytes, no text, its low place at its end, all else 0.
func TestNew(t *testing.T) {
	for _, n := range []int{16, 17, 20, 255, 256, 488, 4095, 4096} {
		a := made(t, n)
		has(t, "new", a, numbers(0, n)+zeros(n-4))
		counts(t, "new", a, 0, n-4, n-4)
		holds(t, "new", a)
	}
	for _, n := range []int{15, 1, 0, -1, -16, 4097, 4112, 65536, 65552, math.MaxInt, math.MinInt} {
		if a, e := slot.New(n); a != nil || e != api.ErrArg {
			t.Errorf("New(%d): %v, %v", n, a, e)
		}
	}
}

// P5.1: bytes that may be an area's are loaded, whatever stands where no text is.
func TestLoad(t *testing.T) {
	for _, c := range []struct {
		name, bytes string
		texts       []string
		free, gap   int
	}{
		{"all of it a gap, which is not 0", numbers(0, 16) + "gap gap gap ", nil, 12, 12},
		{"a low place behind which no text is", numbers(0, 6) + "ggno text   ", nil, 12, 2},
		{"no gap", numbers(0, 4) + "no text.....", nil, 12, 0},
		{"the low place at the end", numbers(1, 16, 16, 0) + "gap gap ", []string{""}, 8, 8},
		{"one text from the low place to the end", numbers(1, 8, 8, 8) + "12345678", []string{"12345678"}, 0, 0},
		{"the last byte", numbers(1, 8, 15, 1) + "holes..x", []string{"x"}, 7, 0},
		{"side by side", numbers(2, 12, 14, 2, 12, 2) + "abcd", []string{"cd", "ab"}, 0, 0},
		{"empty ones in, ahead of and behind a text", numbers(4, 20, 21, 3, 22, 0, 20, 0, 24, 0) + "-abc", []string{"abc", "", "", ""}, 1, 0},
		{"empty ones at one place", numbers(3, 17, 18, 0, 18, 0, 17, 0) + "gaphi", []string{"", "", ""}, 5, 1},
		{"the directory up to the end", numbers(3, 16, 16, 0, 16, 0, 16, 0), []string{"", "", ""}, 0, 0},
	} {
		a := loaded(t, c.bytes)
		has(t, c.name, a, c.bytes)
		counts(t, c.name, a, len(c.texts), c.free, c.gap)
		holds(t, c.name, a, c.texts...)
	}
}

// P5.1: other bytes are no area's.
func TestLoadForm(t *testing.T) {
	for name, s := range map[string]string{
		"nothing":                               "",
		"only a head":                           numbers(0, 4),
		"15 bytes":                              numbers(0, 15) + zeros(11),
		"4097 bytes":                            numbers(0, 4096) + zeros(4093),
		"65552 bytes":                           numbers(0, 16) + zeros(65548),
		"all 0":                                 zeros(16),
		"a low place in the head":               numbers(0, 3) + zeros(12),
		"a low place beyond":                    numbers(0, 17) + zeros(12),
		"a low place in the directory":          numbers(1, 7, 8, 1) + zeros(8),
		"a low place at the directory's start":  numbers(1, 4, 8, 1) + zeros(8),
		"a directory that goes beyond":          numbers(3, 16, 15, 0, 15, 0, 15),
		"a directory that goes far beyond":      numbers(65535, 16) + zeros(12),
		"a text ahead of the low place":         numbers(1, 12, 11, 1) + zeros(8),
		"an empty text ahead of the low place":  numbers(1, 12, 11, 0) + zeros(8),
		"a text in the directory":               numbers(1, 8, 4, 4) + zeros(8),
		"a text that goes beyond":               numbers(1, 8, 15, 2) + zeros(8),
		"a text that begins beyond":             numbers(1, 8, 17, 1) + zeros(8),
		"an empty text beyond":                  numbers(1, 8, 17, 0) + zeros(8),
		"a text far beyond":                     numbers(1, 8, 65535, 65535) + zeros(8),
		"a text longer than all":                numbers(1, 8, 8, 65535) + zeros(8),
		"the second one beyond":                 numbers(2, 12, 12, 1, 16, 1) + zeros(4),
		"one byte that is two texts'":           numbers(2, 12, 12, 3, 14, 2) + zeros(4),
		"one byte that is two texts', the last": numbers(2, 12, 15, 1, 12, 4) + zeros(4),
		"twice the same text":                   numbers(2, 12, 13, 2, 13, 2) + zeros(4),
		"a text within another one":             numbers(2, 12, 12, 4, 13, 1) + zeros(4),
		"the first and the third one":           numbers(3, 16, 16, 2, 18, 2, 17, 1) + zeros(4),
	} {
		if a, e := slot.Load(s); a != nil || e != api.ErrForm {
			t.Errorf("%s: %v, %v", name, a, e)
		}
	}
}

// P5.1: the greatest area, full of texts, is loaded; with one byte that is two texts' it is not.
func TestLoadMost(t *testing.T) {
	a := made(t, 4096)
	for i := range 1023 {
		is(t, "Put", a.Put(i, ""), api.OK)
	}
	counts(t, "1023 texts", a, 1023, 0, 0)
	has(t, "1023 texts", a, numbers(1023, 4096)+strings.Repeat(numbers(4096, 0), 1023))
	l := []int{818, 3278}
	for i := range 818 {
		l = append(l, 3278+i, 1)
	}
	has(t, "818 texts", loaded(t, numbers(818, 3278)+numbers(l[2:]...)+zeros(2)+strings.Repeat("x", 818)), numbers(l...)+zeros(2)+strings.Repeat("x", 818))
	l[len(l)-2]--
	if a, e := slot.Load(numbers(l...) + zeros(2) + strings.Repeat("x", 818)); a != nil || e != api.ErrForm {
		t.Errorf("Load of 818 texts, two of which are one byte: %v, %v", a, e)
	}
	a = with(t, 4096, strings.Repeat("y", 4088))
	has(t, "one text", a, numbers(1, 8, 8, 4088)+strings.Repeat("y", 4088))
}

// R3, P5.1 to P5.3: nil, and an area that no call made, have ErrNil ahead of all else, or zero values, and do nothing.
func TestNil(t *testing.T) {
	for name, a := range map[string]*slot.Area{"nil": nil, "not made": new(slot.Area)} {
		for range 2 {
			for _, at := range []int{-1, 0, 1, math.MaxInt, math.MinInt} {
				is(t, name+": Put", a.Put(at, ""), api.ErrNil)
				is(t, name+": Put of too much", a.Put(at, zeros(5000)), api.ErrNil)
				is(t, name+": Set", a.Set(at, "x"), api.ErrNil)
				is(t, name+": Remove", a.Remove(at), api.ErrNil)
				if s, e := a.Get(at); s != "" || e != api.ErrNil {
					t.Errorf("%s: Get(%d): %q, %v", name, at, s, e)
				}
			}
			counts(t, name, a, 0, 0, 0)
			if a.Bytes() != "" || a.Compact() != 0 {
				t.Errorf("%s: %q, %d", name, a.Bytes(), a.Compact())
			}
		}
	}
}

// P5.2: a text stands just ahead of the low place; the directory has it at its place, those from there on one further.
func TestPut(t *testing.T) {
	a := with(t, 20, "ab")
	has(t, "one text", a, numbers(1, 18, 18, 2)+zeros(10)+"ab")
	counts(t, "one text", a, 1, 10, 10)
	a = with(t, 40, "ab")
	is(t, "Put ahead", a.Put(0, "cde"), api.OK)
	has(t, "ahead", a, numbers(2, 35, 35, 3, 38, 2)+zeros(23)+"cdeab")
	is(t, "Put between", a.Put(1, "f"), api.OK)
	has(t, "between", a, numbers(3, 34, 35, 3, 34, 1, 38, 2)+zeros(18)+"fcdeab")
	is(t, "Put of nothing", a.Put(3, ""), api.OK)
	has(t, "nothing", a, numbers(4, 34, 35, 3, 34, 1, 38, 2, 34, 0)+zeros(14)+"fcdeab")
	counts(t, "four texts", a, 4, 14, 14)
	holds(t, "four texts", a, "cde", "f", "ab", "")
}

// P5.2: ErrArg, unless the place is from 0 to how many texts there are, ahead of ErrFull; nothing is changed.
func TestPutArgs(t *testing.T) {
	for _, texts := range [][]string{nil, {"a"}, {"a", "", "bcd"}} {
		a := with(t, 30, texts...)
		was := a.Bytes()
		for _, at := range []int{-1, len(texts) + 1, len(texts) + 2, math.MaxInt, math.MinInt} {
			is(t, "Put", a.Put(at, "x"), api.ErrArg)
			is(t, "Put of nothing", a.Put(at, ""), api.ErrArg)
			is(t, "Put of too much", a.Put(at, zeros(31)), api.ErrArg)
		}
		has(t, "behind wrong places", a, was)
		for at := range len(texts) + 1 {
			is(t, "Put of too much", a.Put(at, zeros(31)), api.ErrFull)
			has(t, "behind too much", a, was)
			is(t, "Put", loaded(t, was).Put(at, "x"), api.OK)
		}
	}
}

// P5.2: what is free has room for a text and its place, to the byte; one byte more is ErrFull, and nothing is changed.
func TestPutFull(t *testing.T) {
	a := with(t, 20, "ab")
	was := a.Bytes()
	is(t, "Put of 7 bytes", a.Put(1, "1234567"), api.ErrFull)
	is(t, "Put of 4096 bytes", a.Put(1, zeros(4096)), api.ErrFull)
	is(t, "Put of 100000 bytes", a.Put(1, zeros(100000)), api.ErrFull)
	has(t, "behind too much", a, was)
	is(t, "Put of 6 bytes", a.Put(1, "123456"), api.OK)
	has(t, "full", a, numbers(2, 12, 18, 2, 12, 6)+"123456ab")
	counts(t, "full", a, 2, 0, 0)
	is(t, "Put of nothing", a.Put(0, ""), api.ErrFull)
	for free, want := range []api.Errno{api.ErrFull, api.ErrFull, api.ErrFull, api.ErrFull, api.OK, api.OK} {
		a = with(t, 20, zeros(12-free))
		counts(t, "nearly full", a, 1, free, free)
		is(t, "Put of nothing", a.Put(1, ""), want)
	}
	a = with(t, 16, zeros(8))
	has(t, "the least area", a, numbers(1, 8, 8, 8)+zeros(8))
}

// P5.2: it is compacted first, if the gap is less than the text and its place have, and only then.
func TestPutCompacts(t *testing.T) {
	// Bytes between the texts, and in the gap, tell whether it was.
	image := numbers(2, 24, 29, 2, 25, 3) + "ggggggggGGGG" + "hABChde" + "h"
	a := loaded(t, image)
	counts(t, "loaded", a, 2, 15, 12)
	is(t, "Put of what the gap has", a.Put(1, "12345678"), api.OK)
	has(t, "the gap was enough", a, numbers(3, 16, 29, 2, 16, 8, 25, 3)+"12345678hABChdeh")
	a = loaded(t, image)
	is(t, "Put of one byte more", a.Put(1, "123456789"), api.OK)
	has(t, "compacted", a, numbers(3, 18, 30, 2, 18, 9, 27, 3)+zeros(2)+"123456789ABCde")
	counts(t, "compacted", a, 3, 2, 2)
	a = loaded(t, image)
	is(t, "Put of all that is free", a.Put(0, "123456789ab"), api.OK)
	has(t, "full", a, numbers(3, 16, 16, 11, 30, 2, 27, 3)+"123456789abABCde")
	a = loaded(t, image)
	is(t, "Put of one byte more than is free", a.Put(0, "123456789abc"), api.ErrFull)
	has(t, "not compacted", a, image)
	a = loaded(t, numbers(0, 6)+"ggHIJKLMNOPQ")
	is(t, "Put of nothing", a.Put(0, ""), api.OK)
	has(t, "no text was there", a, numbers(1, 16, 16, 0)+zeros(8))
	a = loaded(t, numbers(0, 8)+"ggggIJKLMNOP")
	is(t, "Put of nothing", a.Put(0, ""), api.OK)
	has(t, "the gap was enough for no text", a, numbers(1, 8, 8, 0)+"IJKLMNOP")
}

// P5.3: a text that has no more bytes stands where the one ahead stood; the bytes behind it stay.
func TestSetInPlace(t *testing.T) {
	a := with(t, 30, "abcd", "ef", "")
	is(t, "Set of as many", a.Set(0, "1234"), api.OK)
	has(t, "as many", a, numbers(3, 24, 26, 4, 24, 2, 24, 0)+zeros(8)+"ef1234")
	is(t, "Set of less", a.Set(0, "x"), api.OK)
	has(t, "less", a, numbers(3, 24, 26, 1, 24, 2, 24, 0)+zeros(8)+"efx234")
	counts(t, "less", a, 3, 11, 8)
	is(t, "Set of nothing", a.Set(1, ""), api.OK)
	is(t, "Set of nothing for nothing", a.Set(2, ""), api.OK)
	has(t, "nothing", a, numbers(3, 24, 26, 1, 24, 0, 24, 0)+zeros(8)+"efx234")
	counts(t, "nothing", a, 3, 13, 8)
	holds(t, "nothing", a, "x", "", "")
	// With no byte free, too, and with no gap, but neither compacts it.
	a = loaded(t, numbers(2, 12, 12, 3, 16, 2)+"ABChDE")
	is(t, "Set without a gap", a.Set(0, "xy"), api.OK)
	has(t, "without a gap", a, numbers(2, 12, 12, 2, 16, 2)+"xyChDE")
	a = with(t, 16, "12345678")
	is(t, "Set without a free byte", a.Set(0, "abcdefgh"), api.OK)
	has(t, "without a free byte", a, numbers(1, 8, 8, 8)+"abcdefgh")
}

// P5.3: a text that has more stands just ahead of the low place; the bytes of the one ahead stay.
func TestSetLonger(t *testing.T) {
	a := with(t, 30, "ab", "c")
	is(t, "Set of more", a.Set(0, "123"), api.OK)
	has(t, "more", a, numbers(2, 24, 24, 3, 27, 1)+zeros(12)+"123cab")
	counts(t, "more", a, 2, 14, 12)
	is(t, "Set of more", a.Set(1, "45"), api.OK)
	has(t, "more again", a, numbers(2, 22, 24, 3, 22, 2)+zeros(10)+"45123cab")
	holds(t, "more again", a, "123", "45")
	is(t, "Set of what the gap has", a.Set(1, "0123456789"), api.OK)
	has(t, "no gap is left", a, numbers(2, 12, 24, 3, 12, 10)+"012345678945123cab")
	counts(t, "no gap is left", a, 2, 5, 0)
}

// P5.3: if the gap has less than the text, it is compacted first, the text ahead without bytes.
func TestSetCompacts(t *testing.T) {
	image := numbers(2, 18, 18, 3, 24, 2) + "ggGGGG" + "ABChhhDE"
	a := loaded(t, image)
	counts(t, "loaded", a, 2, 9, 6)
	is(t, "Set of what the gap has", a.Set(0, "123456"), api.OK)
	has(t, "the gap was enough", a, numbers(2, 12, 12, 6, 24, 2)+"123456ABChhhDE")
	a = loaded(t, image)
	is(t, "Set of one byte more", a.Set(0, "1234567"), api.OK)
	has(t, "the first one", a, numbers(2, 17, 17, 7, 24, 2)+zeros(5)+"1234567DE")
	a = loaded(t, image)
	is(t, "Set of one byte more", a.Set(1, "1234567"), api.OK)
	has(t, "the last one", a, numbers(2, 16, 23, 3, 16, 7)+zeros(4)+"1234567ABC")
	counts(t, "the last one", a, 2, 4, 4)
	a = loaded(t, image)
	is(t, "Set of all that is free", a.Set(0, "123456789abc"), api.OK)
	has(t, "all that is free", a, numbers(2, 12, 12, 12, 24, 2)+"123456789abcDE")
	a = loaded(t, image)
	is(t, "Set of all that is free", a.Set(1, "123456789ab"), api.OK)
	has(t, "all that is free", a, numbers(2, 12, 23, 3, 12, 11)+"123456789abABC")
	for at, text := range []string{"123456789abcd", "123456789abc"} {
		a = loaded(t, image)
		is(t, "Set of one byte more than is free", a.Set(at, text), api.ErrFull)
		is(t, "Set of far more", a.Set(at, zeros(100000)), api.ErrFull)
		has(t, "not compacted", a, image)
	}
	a = with(t, 16, "1234567")
	is(t, "Set of one more", a.Set(0, "abcdefgh"), api.OK)
	has(t, "the only one", a, numbers(1, 8, 8, 8)+"abcdefgh")
	is(t, "Set of too much", a.Set(0, "abcdefghi"), api.ErrFull)
	has(t, "full", a, numbers(1, 8, 8, 8)+"abcdefgh")
}

// P5.3: the directory has the text no more; its last place is 0 then; all else stays.
func TestRemove(t *testing.T) {
	full := numbers(3, 20, 29, 1, 20, 6, 26, 3) + "gggg" + "AAAAAABBBC"
	for at, want := range []string{
		numbers(2, 20, 20, 6, 26, 3) + zeros(4) + "gggg" + "AAAAAABBBC",
		numbers(2, 20, 29, 1, 26, 3) + zeros(4) + "gggg" + "AAAAAABBBC",
		numbers(2, 20, 29, 1, 20, 6) + zeros(4) + "gggg" + "AAAAAABBBC",
	} {
		a := loaded(t, full)
		is(t, "Remove", a.Remove(at), api.OK)
		has(t, "removed", a, want)
		l := []string{"C", "AAAAAA", "BBB"}
		holds(t, "removed", a, append(l[:at:at], l[at+1:]...)...)
		counts(t, "removed", a, 2, 18-len(strings.Join(append(l[:at:at], l[at+1:]...), "")), 8)
	}
	a := loaded(t, full)
	for range 3 {
		is(t, "Remove", a.Remove(0), api.OK)
	}
	has(t, "all removed", a, numbers(0, 20)+zeros(12)+"gggg"+"AAAAAABBBC")
	counts(t, "all removed", a, 0, 26, 16)
	is(t, "Put of what is free", a.Put(0, zeros(20)+"xy"), api.OK)
	has(t, "full again", a, numbers(1, 8, 8, 22)+zeros(20)+"xy")
}

// P5.3: ErrNone of Set and Remove, unless there is the text, ahead of ErrFull; nothing is changed.
func TestNone(t *testing.T) {
	for _, texts := range [][]string{nil, {"a"}, {"a", "", "bcd"}} {
		a := with(t, 30, texts...)
		was := a.Bytes()
		for _, at := range []int{-1, len(texts), len(texts) + 1, math.MaxInt, math.MinInt} {
			is(t, "Set", a.Set(at, "x"), api.ErrNone)
			is(t, "Set of nothing", a.Set(at, ""), api.ErrNone)
			is(t, "Set of too much", a.Set(at, zeros(31)), api.ErrNone)
			is(t, "Remove", a.Remove(at), api.ErrNone)
		}
		has(t, "behind wrong places", a, was)
		holds(t, "behind wrong places", a, texts...)
	}
}

// P5.3: texts stand at the end, the first one last of all, without a byte between; the gap is 0; Compact tells by how much it grew.
func TestCompact(t *testing.T) {
	for _, c := range []struct {
		name, bytes, want string
		grew              int
	}{
		{"no text", numbers(0, 16) + zeros(12), numbers(0, 16) + zeros(12), 0},
		{"no text, but a gap that is not 0", numbers(0, 16) + "gap gap gap ", numbers(0, 16) + zeros(12), 0},
		{"no text, but a lower low place", numbers(0, 6) + "gapno text..", numbers(0, 16) + zeros(12), 10},
		{"no text, and no gap", numbers(0, 4) + "no text.....", numbers(0, 16) + zeros(12), 12},
		{"as it is", numbers(2, 13, 14, 2, 13, 1) + zeros(1) + "xab", numbers(2, 13, 14, 2, 13, 1) + zeros(1) + "xab", 0},
		{"in another order", numbers(2, 13, 13, 1, 14, 2) + "gxab", numbers(2, 13, 15, 1, 13, 2) + zeros(1) + "abx", 0},
		{"holes", numbers(2, 12, 17, 3, 13, 2) + "habhhcdeh", numbers(2, 16, 18, 3, 16, 2) + zeros(4) + "abcde", 4},
		{"to stand over each other", numbers(2, 12, 12, 4, 16, 5) + "abcd12345h", numbers(2, 13, 18, 4, 13, 5) + zeros(1) + "12345abcd", 1},
		{"empty ones", numbers(3, 17, 18, 0, 17, 2, 20, 0) + "gABhh", numbers(3, 19, 21, 0, 19, 2, 19, 0) + zeros(3) + "AB", 2},
		{"only empty ones", numbers(2, 12, 13, 0, 12, 0) + "hhhh", numbers(2, 16, 16, 0, 16, 0) + zeros(4), 4},
		{"no room besides", numbers(1, 8, 8, 8) + "12345678", numbers(1, 8, 8, 8) + "12345678", 0},
	} {
		a := loaded(t, c.bytes)
		if n := a.Compact(); n != c.grew {
			t.Errorf("%s: it grew by %d, not %d", c.name, n, c.grew)
		}
		has(t, c.name, a, c.want)
		if a.Gap() != a.Free() {
			t.Errorf("%s: a gap of %d, %d free", c.name, a.Gap(), a.Free())
		}
		if n := a.Compact(); n != 0 {
			t.Errorf("%s: it grew again, by %d", c.name, n)
		}
		has(t, c.name, a, c.want)
	}
}

// P5.2, P5.3: each byte of a text stands just where it was put, and a place above 255 is told by two bytes.
func TestWide(t *testing.T) {
	var b [256]byte
	for i := range b {
		b[i] = byte(i)
	}
	all := string(b[:])
	a := with(t, 4096, all, strings.Repeat(all, 3))
	has(t, "two texts", a, numbers(2, 3072, 3840, 256, 3072, 768)+zeros(3060)+strings.Repeat(all, 4))
	is(t, "Set of more", a.Set(0, all+"more"), api.OK)
	has(t, "more", a, numbers(2, 2812, 2812, 260, 3072, 768)+zeros(2800)+all+"more"+strings.Repeat(all, 4))
	if n := a.Compact(); n != 256 {
		t.Errorf("it grew by %d", n)
	}
	has(t, "compacted", a, numbers(2, 3068, 3836, 260, 3068, 768)+zeros(3056)+strings.Repeat(all, 4)+"more")
}

// R5: what is answered is no piece of what was handed in, and stays as it was.
func TestNewMemory(t *testing.T) {
	text := strings.Repeat("t", 40)
	a := with(t, 60, text)
	got, _ := a.Get(0)
	image := a.Bytes()
	if unsafe.StringData(got) == unsafe.StringData(text) {
		t.Error("Get is what was put")
	}
	b := loaded(t, image)
	if unsafe.StringData(b.Bytes()) == unsafe.StringData(image) {
		t.Error("Bytes is what was loaded")
	}
	for _, x := range []*slot.Area{a, b} {
		is(t, "Set", x.Set(0, strings.Repeat("u", 40)), api.OK)
	}
	if got != text || text != strings.Repeat("t", 40) || image != numbers(1, 20, 20, 40)+zeros(12)+text {
		t.Errorf("what was answered has become %q, %q", got, image)
	}
	c, d := loaded(t, image), loaded(t, image)
	is(t, "Remove", c.Remove(0), api.OK)
	holds(t, "the other one", d, text)
}
