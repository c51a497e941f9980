package key_test

import (
	"slices"
	"strings"
	"testing"
	"unsafe"

	"pentimento/api"
	"pentimento/key"
)

// small is each text of at most three bytes of a few, those at both ends among them.
func small() []string {
	l := []string{""}
	for at := 0; at < len(l); at++ {
		if len(l[at]) < 3 {
			for _, c := range []string{"\x00", "\x01", "a", "\x7f", "\x80", "\xfe", "\xff"} {
				l = append(l, l[at]+c)
			}
		}
	}
	return l
}

// long is texts as long as a key may be, and nearly so, some of them no UTF-8.
func long() []string {
	var l []string
	for n := api.MaxKey - 2; n <= api.MaxKey+2; n++ {
		for _, c := range []string{"\x00", "a", "\x7f", "\x80", "\xc3", "\xfe", "\xff"} {
			l = append(l, strings.Repeat(c, n))
			for _, end := range []string{"\x00", "b", "\xc3\xa9", "\xfe\xff", "\x80\xff\xff", "\xef\xbf\xbd"} {
				l = append(l, strings.Repeat(c, n-len(end))+end)
			}
		}
	}
	return l
}

// ahead: whether a is ahead of b, by the chapter's words: byte by byte, a beginning ahead of what goes on.
func ahead(a, b string) bool {
	for i := range len(b) {
		if i == len(a) {
			return true
		}
		if a[i] != b[i] {
			return a[i] < b[i]
		}
	}
	return false
}

// P3.1: a key has 1 to 48 bytes, whichever they are.
func TestMay(t *testing.T) {
	for n := range 200 {
		for _, c := range []string{"\x00", "k", "\xff"} {
			if got, want := key.May(strings.Repeat(c, n)), n >= 1 && n <= 48; got != want {
				t.Errorf("%d bytes %q: %v", n, c, got)
			}
		}
	}
	if key.May(strings.Repeat("é", 25)) || !key.May(strings.Repeat("é", 24)) {
		t.Error("a key's bytes count, not its letters")
	}
}

// P3.1: a value has at most 96 bytes, whichever they are.
func TestValue(t *testing.T) {
	for n := range 300 {
		for _, c := range []string{"\x00", "v", "\xff"} {
			if got, want := key.Value(strings.Repeat(c, n)), n <= 96; got != want {
				t.Errorf("%d bytes %q: %v", n, c, got)
			}
		}
	}
	if key.Value(strings.Repeat("é", 49)) || !key.Value(strings.Repeat("é", 48)) {
		t.Error("a value's bytes count, not its letters")
	}
}

// P3.1: how two texts stand, and how much both begin with.
func TestCompareCommon(t *testing.T) {
	far := strings.Repeat("far", 1000)
	for _, c := range []struct {
		a, b         string
		want, common int
	}{
		{"", "", 0, 0},
		{"", "a", -1, 0},
		{"a", "", 1, 0},
		{"a", "a", 0, 1},
		{"a", "b", -1, 0},
		{"b", "a", 1, 0},
		{"ab", "abc", -1, 2},
		{"abc", "ab", 1, 2},
		{"abc", "abxy", -1, 2},
		{"b", "aaa", 1, 0},
		{"a", "a\x00", -1, 1},
		{"a\x00", "a\x00", 0, 2},
		{"a\x00b", "a\x00c", -1, 2},
		{"\x7f", "\x80", -1, 0},
		{"\x80", "\xff", -1, 0},
		{"\xff", "\x00", 1, 0},
		{"z", "\xc3\xa9", -1, 0},
		{"\xc3\xa9", "\xc3\xaa", -1, 1},
		{"\xef\xbf\xbd", "\xf0", -1, 0},
		{"A", "a", -1, 0},
		{"10", "9", -1, 0},
		{far, far, 0, 3000},
		{far, far + "x", -1, 3000},
		{far + "y", far + "x", 1, 3000},
	} {
		if got := key.Compare(c.a, c.b); got != c.want {
			t.Errorf("Compare(%q, %q): %d, not %d", c.a, c.b, got, c.want)
		}
		if got := key.Common(c.a, c.b); got != c.common {
			t.Errorf("Common(%q, %q): %d, not %d", c.a, c.b, got, c.common)
		}
	}
}

// P3.1: the same, of each two of many texts.
func TestCompareCommonAll(t *testing.T) {
	for _, l := range [][]string{small(), long()} {
		for _, a := range l {
			for _, b := range l {
				want := 0
				if ahead(a, b) {
					want = -1
				} else if ahead(b, a) {
					want = 1
				}
				if got := key.Compare(a, b); got != want {
					t.Errorf("Compare(%q, %q): %d, not %d", a, b, got, want)
				}
				n := key.Common(a, b)
				if n < 0 || n > min(len(a), len(b)) || a[:n] != b[:n] || n < len(a) && n < len(b) && a[n] == b[n] {
					t.Errorf("Common(%q, %q): %d", a, b, n)
				}
			}
		}
	}
}

// P3.1: from on, up to what is ahead of to; an empty to is no end.
func TestIn(t *testing.T) {
	for _, c := range []struct {
		key, from, to string
		want          bool
	}{
		{"b", "a", "c", true},
		{"a", "a", "c", true},
		{"c", "a", "c", false},
		{"d", "a", "c", false},
		{"b\xff", "a", "c", true},
		{"A", "a", "c", false},
		{"a", "a\x00", "c", false},
		{"a\x00", "a", "a\x00", false},
		{"a", "a", "a\x00", true},
		{"a", "a", "a", false},
		{"b", "c", "a", false},
		{"a", "c", "a", false},
		{"c", "c", "a", false},
		{"d", "c", "a", false},
		{"b", "", "", true},
		{"", "", "", true},
		{"", "", "a", true},
		{"", "a", "", false},
		{"a", "", "a", false},
		{"a", "a", "", true},
		{"\xff\xff", "a", "", true},
		{"A", "a", "", false},
		{"\x00", "", "\x00", false},
		{"\x00", "", "\x01", true},
		{strings.Repeat("k", 49), "k", "l", true},
	} {
		if got := key.In(c.key, c.from, c.to); got != c.want {
			t.Errorf("In(%q, %q, %q): %v", c.key, c.from, c.to, got)
		}
	}
}

// P3.1: the same, of each three of some texts.
func TestInAll(t *testing.T) {
	l := small()[:57]
	for _, k := range l {
		for _, from := range l {
			for _, to := range l {
				want := !ahead(k, from) && (to == "" || ahead(k, to))
				if got := key.In(k, from, to); got != want {
					t.Errorf("In(%q, %q, %q): %v", k, from, to, got)
				}
			}
		}
	}
}

// P3.2: the shortest beginning; and that there is none, unless a is ahead of b.
func TestBetween(t *testing.T) {
	for _, c := range []struct {
		a, b, want string
		is         bool
	}{
		{"abc", "abxy", "abx", true},
		{"ab", "abc", "abc", true},
		{"ab", "abcdef", "abc", true},
		{"", "a", "a", true},
		{"", "abc", "a", true},
		{"", "\x00", "\x00", true},
		{"a", "a\x00\x00", "a\x00", true},
		{"abc", "b", "b", true},
		{"abc", "bcd", "b", true},
		{"a\xff\xff", "b\x00", "b", true},
		{"\x7fz", "\x80a", "\x80", true},
		{"\xfe", "\xff\xff", "\xff", true},
		{strings.Repeat("k", 100), strings.Repeat("k", 100) + "lm", strings.Repeat("k", 100) + "l", true},
		{strings.Repeat("k", 48), strings.Repeat("k", 47) + "lm", strings.Repeat("k", 47) + "l", true},
		{"", "", "", false},
		{"a", "a", "", false},
		{"a", "", "", false},
		{"b", "a", "", false},
		{"abc", "ab", "", false},
		{"abx", "abcd", "", false},
		{"\xff", "\x00\x00", "", false},
	} {
		if got, is := key.Between(c.a, c.b); got != c.want || is != c.is {
			t.Errorf("Between(%q, %q): %q, %v", c.a, c.b, got, is)
		}
	}
}

// P3.2 and P3.3: a beginning of b, behind a, not behind b, none shorter is; of each two of many texts.
func TestBetweenAll(t *testing.T) {
	for _, l := range [][]string{small(), long()} {
		for _, a := range l {
			for _, b := range l {
				got, is := key.Between(a, b)
				if is != ahead(a, b) || !is && got != "" {
					t.Errorf("Between(%q, %q): %q, %v", a, b, got, is)
				}
				if !is {
					continue
				}
				if !strings.HasPrefix(b, got) || !ahead(a, got) || ahead(b, got) {
					t.Errorf("Between(%q, %q): %q", a, b, got)
				}
				if len(got) > 0 && ahead(a, got[:len(got)-1]) {
					t.Errorf("Between(%q, %q): %q, and what is shorter would do", a, b, got)
				}
			}
		}
	}
}

// P3.2: the next one, where a byte 0 has room, where it has none, and where there is nothing behind.
func TestNext(t *testing.T) {
	k46, k47 := strings.Repeat("k", 46), strings.Repeat("k", 47)
	f47, f48 := strings.Repeat("\xff", 47), strings.Repeat("\xff", 48)
	for _, c := range []struct {
		key, want string
		is        bool
	}{
		{"", "\x00", true},
		{"a", "a\x00", true},
		{"a\x00", "a\x00\x00", true},
		{"\xff", "\xff\x00", true},
		{k46, k46 + "\x00", true},
		{k47, k47 + "\x00", true},
		{k47 + "\x00", k47 + "\x01", true},
		{k47 + "k", k47 + "l", true},
		{k47 + "\x7f", k47 + "\x80", true},
		{k47 + "\x80", k47 + "\x81", true},
		{k47 + "\xfe", k47 + "\xff", true},
		{k47 + "\xff", k46 + "l", true},
		{k46 + "\xfe\xff", k46 + "\xff", true},
		{k46 + "\x80\xff", k46 + "\x81", true},
		{k46 + "\xff\x80", k46 + "\xff\x81", true},
		{"a" + f47, "b", true},
		{"\x00" + f47, "\x01", true},
		{"\xfe" + f47, "\xff", true},
		{f47, f47 + "\x00", true},
		{f47 + "\x00", f47 + "\x01", true},
		{f47 + "\xfe", f48, true},
		{f48, "", false},
		{f48 + "\xff", "", false},
		{f48 + "\x00", "", false},
		{k47 + "kk", "", false},
		{strings.Repeat("k", 97), "", false},
	} {
		if got, is := key.Next(c.key); got != c.want || is != c.is {
			t.Errorf("Next(%q): %q, %v", c.key, got, is)
		}
	}
}

// P3.2 and P3.3: the next one is behind the key, short enough, and nothing of many texts stands between them.
func TestNextAll(t *testing.T) {
	all := append(small(), long()...)
	for _, k := range all {
		next, is := key.Next(k)
		if want := len(k) <= 48 && k != strings.Repeat("\xff", 48); is != want || !is && next != "" {
			t.Errorf("Next(%q): %q, %v", k, next, is)
		}
		if !is {
			continue
		}
		if len(next) > 48 || !ahead(k, next) {
			t.Errorf("Next(%q): %q", k, next)
		}
		for _, s := range all {
			if len(s) <= 48 && ahead(k, s) && ahead(s, next) {
				t.Errorf("Next(%q): %q, and %q between them", k, next, s)
			}
		}
	}
}

// P3.3: what is between a key and the next one is the next one itself.
func TestBetweenNext(t *testing.T) {
	for _, k := range append(small(), long()...) {
		if next, is := key.Next(k); is {
			if s, is := key.Between(k, next); s != next || !is {
				t.Errorf("Between(%q, %q): %q, %v", k, next, s, is)
			}
		}
	}
}

// P3.1: Compare puts texts in the order that they have.
func TestOrder(t *testing.T) {
	l := small()
	slices.SortFunc(l, key.Compare)
	for i := range len(l) - 1 {
		if !ahead(l[i], l[i+1]) {
			t.Errorf("%q isn't ahead of %q", l[i], l[i+1])
		}
	}
}

// R5: answers share no memory with arguments.
func TestNewMemory(t *testing.T) {
	b := strings.Repeat("b", 30)
	if s, _ := key.Between("a", b); s != "b" || unsafe.StringData(s) == unsafe.StringData(b) {
		t.Errorf("Between: %q, a piece of the argument", s)
	}
	if s, _ := key.Between(b[:29], b); s != b || unsafe.StringData(s) == unsafe.StringData(b) {
		t.Errorf("Between: %q, the argument", s)
	}
	k := "a" + strings.Repeat("\xff", 47)
	if s, _ := key.Next(k); s != "b" || unsafe.StringData(s) == unsafe.StringData(k) {
		t.Errorf("Next: %q, a piece of the argument", s)
	}
}

// R6: an answer doesn't hang on what was asked before.
func TestSameAgain(t *testing.T) {
	first, _ := key.Next("a")
	key.Next(strings.Repeat("\xff", 48))
	key.Between("b", "a")
	key.In("a", "b", "c")
	if again, is := key.Next("a"); again != first || !is {
		t.Errorf("%q, and again %q, %v", first, again, is)
	}
}
