package node_test

import (
	"math"
	"slices"
	"strings"
	"testing"
	"unsafe"

	"pentimento/api"
	"pentimento/key"
	"pentimento/node"
	"pentimento/page"
)

// leafRow is the bytes of a row of that key, whose value has so many bytes: 17 more than both.
func leafRow(k string, value int) string {
	return strings.Repeat("\x00", 15) + string([]byte{byte(len(k))}) + k + string([]byte{byte(value)}) + strings.Repeat("v", value)
}

// entry is the bytes of an entry: 4 more than its key.
func entry(k string, child int) string {
	return string([]byte{0, 0, byte(child >> 8), byte(child)}) + k
}

// leaf is a leaf of rows of these keys, without values.
func leaf(keys ...string) api.Page {
	p := api.Page{Kind: api.PageLeaf, Id: 5, LSN: 77, Next: 9}
	for _, k := range keys {
		p.Rows = append(p.Rows, leafRow(k, 0))
	}
	return p
}

// inner is an inner page of Level 1 of entries of these keys, whose children are 2, 3 and so on.
func inner(keys ...string) api.Page {
	p := api.Page{Kind: api.PageInner, Level: 1, Id: 6, LSN: 78, Next: 10}
	for i, k := range keys {
		p.Rows = append(p.Rows, entry(k, i+2))
	}
	return p
}

// of is the page with these rows, and no others.
func of(p api.Page, rows ...string) api.Page {
	p.Rows = rows
	return p
}

// but is the page with a change.
func but(p api.Page, change func(*api.Page)) api.Page {
	p.Rows = slices.Clone(p.Rows)
	change(&p)
	return p
}

// alike: whether both are the same, a list of no rows and none too.
func alike(a, b api.Page) bool { return page.Same(a, b) }

// names is so many keys of one length, in order.
func names(n, size int) []string {
	var l []string
	for i := range n {
		l = append(l, strings.Repeat("k", size-1)+string([]byte{byte('A' + i)}))
	}
	return l
}

// named is a page, and what it is.
type named struct {
	name string
	p    api.Page
}

// nodes are pages that are nodes.
func nodes() []named {
	return []named{
		{"a leaf without rows", leaf()},
		{"a leaf with a list without rows", of(leaf(), []string{}...)},
		{"a leaf of a row", leaf("a")},
		{"a leaf of rows", leaf("a", "aa", "ab", "b", "\xff")},
		{"a leaf of the least and the longest key", leaf("\x00", strings.Repeat("\xff", 48))},
		{"a full leaf", of(leaf(), leafRow("a", 96), leafRow("b", 96), leafRow("c", 96), leafRow("d", 96))},
		{"a leaf that is full to the last byte", of(leaf(), leafRow("a", 96), leafRow("b", 96), leafRow("c", 96), leafRow("ddddddddddddd", 96))},
		{"an inner page of an entry", inner("m")},
		{"an inner page of an entry without a key", inner("")},
		{"an inner page of entries", inner("", "a", "aa", "b")},
		{"an inner page whose first entry has a key", inner("a", "b")},
		{"an inner page of Level 255", but(inner("a"), func(p *api.Page) { p.Level = 255 })},
		{"an inner page of one child, thrice", of(inner(), entry("", 1024), entry("a", 1024), entry("b", 1024))},
		{"an inner page that is full to the last byte", of(inner(), append(inner(names(8, 48)...).Rows, entry(strings.Repeat("z", 28), 1))...)},
		{"the first page, without a next one", but(leaf("a"), func(p *api.Page) { p.Id, p.Next, p.LSN = 1, 0, 0 })},
		{"the last page, its own next one", but(leaf("a"), func(p *api.Page) { p.Id, p.Next, p.LSN = 1024, 1024, math.MaxUint64 })},
	}
}

// none are pages that are no nodes.
func none() []named {
	l := []named{
		{"nothing", api.Page{}},
		{"a leaf of Level 1", but(leaf("a"), func(p *api.Page) { p.Level = 1 })},
		{"a leaf without rows of Level 255", but(leaf(), func(p *api.Page) { p.Level = 255 })},
		{"an inner page of Level 0", but(inner("a"), func(p *api.Page) { p.Level = 0 })},
		{"an inner page without rows", inner()},
		{"an inner page with a list without rows", of(inner(), []string{}...)},
		{"a leaf of one key twice", leaf("a", "b", "b")},
		{"a leaf of falling keys", leaf("b", "a")},
		{"a leaf of falling keys at the end", leaf("a", "c", "b")},
		{"a leaf of keys that fall by their length", leaf("aa", "a")},
		{"a leaf whose bytes fall, with their sign they would rise", leaf("\xff", "a")},
		{"an inner page of one key twice", inner("", "a", "a")},
		{"an inner page of no key twice", inner("", "")},
		{"an inner page of falling keys", inner("b", "a")},
		{"an inner page whose empty key isn't first", inner("a", "")},
		{"a leaf of entries", but(inner("a"), func(p *api.Page) { p.Kind, p.Level = api.PageLeaf, 0 })},
		{"an inner page of rows", but(leaf("a"), func(p *api.Page) { p.Kind, p.Level = api.PageInner, 1 })},
		{"a leaf of a row without bytes", of(leaf(), "")},
		{"a leaf of no row's bytes at the end", of(leaf(), leafRow("a", 0), "b")},
		{"a leaf of no row's bytes at first", of(leaf(), "b", leafRow("c", 0))},
		{"a leaf of a row without a key", of(leaf(), leafRow("", 3))},
		{"a leaf of a row with a key of 49 bytes", of(leaf(), leafRow(strings.Repeat("k", 49), 3))},
		{"a leaf of a row with a mark that is none", of(leaf(), "\x02"+leafRow("a", 0)[1:])},
		{"an inner page of an entry without bytes", of(inner(), "")},
		{"an inner page of an entry without a child", of(inner(), entry("a", 0))},
		{"an inner page of an entry with a child of 1025", of(inner(), entry("", 2), entry("a", 1025))},
		{"an inner page of an entry with a key of 49 bytes", inner(strings.Repeat("k", 49))},
		{"a leaf of the id 0", but(leaf("a"), func(p *api.Page) { p.Id = 0 })},
		{"a leaf of the id 1025", but(leaf("a"), func(p *api.Page) { p.Id = 1025 })},
		{"a leaf with a next page of 1025", but(leaf("a"), func(p *api.Page) { p.Next = 1025 })},
		{"an inner page of the id 0", but(inner("a"), func(p *api.Page) { p.Id = 0 })},
		{"an inner page with a next page of 1025", but(inner("a"), func(p *api.Page) { p.Next = 1025 })},
		{"a leaf with a byte too much", of(leaf(), leafRow("a", 96), leafRow("b", 96), leafRow("c", 96), leafRow("dddddddddddddd", 96))},
		{"an inner page with a byte too much", of(inner(), append(inner(names(8, 48)...).Rows, entry(strings.Repeat("z", 29), 1))...)},
		{"a leaf of far too many rows", of(leaf(), slices.Repeat([]string{leafRow("a", 0)}, 1<<20)...)},
	}
	for _, kind := range []uint8{api.PageFree, api.PageUndo, api.PageMap, api.PageMeta, 6, 255} {
		l = append(l,
			named{"another kind, of Level 0", but(leaf("a"), func(p *api.Page) { p.Kind = kind })},
			named{"another kind, without rows", but(leaf(), func(p *api.Page) { p.Kind = kind })},
			named{"another kind, of Level 1", but(inner("a"), func(p *api.Page) { p.Kind = kind })})
	}
	return l
}

// P8.1: a node is OK, all else ErrForm.
func TestCheck(t *testing.T) {
	for _, c := range nodes() {
		if e := node.Check(c.p); e != api.OK {
			t.Errorf("%s: %v", c.name, e)
		}
	}
	for _, c := range none() {
		if e := node.Check(c.p); e != api.ErrForm {
			t.Errorf("%s: %v", c.name, e)
		}
	}
}

// P8.1: of what is no node each call tells just that, also where a place, or the other page, may not be.
func TestNone(t *testing.T) {
	for _, c := range none() {
		for _, at := range []int{0, 1, -1, 99, math.MinInt, math.MaxInt} {
			if k, e := node.Key(c.p, at); k != "" || e != api.ErrForm {
				t.Errorf("%s: Key(%d): %q, %v", c.name, at, k, e)
			}
			if q, e := node.Without(c.p, at); !alike(q, api.Page{}) || e != api.ErrForm {
				t.Errorf("%s: Without(%d): %v, %v", c.name, at, q, e)
			}
			for _, is := range []bool{false, true} {
				for _, text := range []string{"", leafRow("x", 0), entry("x", 7)} {
					if q, e := node.With(c.p, at, text, is); !alike(q, api.Page{}) || e != api.ErrForm {
						t.Errorf("%s: With(%d): %v, %v", c.name, at, q, e)
					}
					if node.Fits(c.p, at, text, is) {
						t.Errorf("%s: Fits(%d)", c.name, at)
					}
					if l, r, s, e := node.Split(c.p, at, text, is); len(l) != 0 || len(r) != 0 || s != "" || e != api.ErrForm {
						t.Errorf("%s: Split(%d): %q, %q, %q, %v", c.name, at, l, r, s, e)
					}
				}
			}
		}
		for _, k := range []string{"", "a", "m", "\xff"} {
			if at, is := node.Find(c.p, k); at != 0 || is {
				t.Errorf("%s: Find(%q): %d, %v", c.name, k, at, is)
			}
			if n, at, e := node.Child(c.p, k); n != 0 || at != 0 || e != api.ErrForm {
				t.Errorf("%s: Child(%q): %d, %d, %v", c.name, k, n, at, e)
			}
		}
		for _, other := range []api.Page{leaf(), leaf("m"), inner("m"), c.p} {
			for _, both := range [][2]api.Page{{c.p, other}, {other, c.p}} {
				if q, e := node.Merge(both[0], both[1]); !alike(q, api.Page{}) || e != api.ErrForm {
					t.Errorf("%s: Merge: %v, %v", c.name, q, e)
				}
			}
		}
	}
}

// P8.1: each row's key; none ahead of the first, or behind the last one.
func TestKey(t *testing.T) {
	keys := []string{"a", "aa", "b", "\xff\x00"}
	for _, p := range []api.Page{leaf(keys...), inner(keys...)} {
		for at, want := range keys {
			if k, e := node.Key(p, at); k != want || e != api.OK {
				t.Errorf("%d: %q, %v", at, k, e)
			}
		}
		for _, at := range []int{-1, 4, 5, math.MinInt, math.MaxInt, 1 << 32} {
			if k, e := node.Key(p, at); k != "" || e != api.ErrNone {
				t.Errorf("%d: %q, %v", at, k, e)
			}
		}
	}
	if k, e := node.Key(leaf(), 0); k != "" || e != api.ErrNone {
		t.Errorf("of no rows: %q, %v", k, e)
	}
	if k, e := node.Key(inner(""), 0); k != "" || e != api.OK {
		t.Errorf("an empty one: %q, %v", k, e)
	}
	marked := "\x01" + strings.Repeat("\x07", 8) + "\x00\x00\x03\x04\x05\x06\x02km\x01v\x00\x00"
	if k, e := node.Key(of(leaf(), marked), 0); k != "km" || e != api.OK {
		t.Errorf("with something in each part: %q, %v", k, e)
	}
}

// P8.1: the first place whose key is not ahead, and whether it is that; how many rows there are, if none is.
func TestFind(t *testing.T) {
	for _, c := range []struct {
		keys   []string
		sought string
		at     int
		is     bool
	}{
		{[]string{"a", "c"}, "b", 1, false},
		{[]string{"a", "c"}, "a", 0, true},
		{[]string{"a", "c"}, "c", 1, true},
		{[]string{"a", "c"}, "", 0, false},
		{[]string{"a", "c"}, "Z", 0, false},
		{[]string{"a", "c"}, "a\x00", 1, false},
		{[]string{"a", "c"}, "c\x00", 2, false},
		{[]string{"a", "c"}, "\xff", 2, false},
		{[]string{"a", "c"}, strings.Repeat("b", 1<<16), 1, false},
		{[]string{"m"}, "l", 0, false},
		{[]string{"m"}, "m", 0, true},
		{[]string{"m"}, "n", 1, false},
		{[]string{"a", "ab", "abc", "b", "ba"}, "abb", 2, false},
		{[]string{"a", "ab", "abc", "b", "ba"}, "abc", 2, true},
		{[]string{"a", "ab", "abc", "b", "ba"}, "abcd", 3, false},
		{[]string{"a", "ab", "abc", "b", "ba"}, "bb", 5, false},
	} {
		for _, p := range []api.Page{leaf(c.keys...), inner(c.keys...)} {
			if at, is := node.Find(p, c.sought); at != c.at || is != c.is {
				t.Errorf("%q of %q: %d, %v", c.sought, c.keys, at, is)
			}
		}
	}
	if at, is := node.Find(leaf(), "a"); at != 0 || is {
		t.Errorf("of no rows: %d, %v", at, is)
	}
	if at, is := node.Find(inner("", "a"), ""); at != 0 || !is {
		t.Errorf("the empty key: %d, %v", at, is)
	}
	if at, is := node.Find(inner("", "a"), "\x00"); at != 1 || is {
		t.Errorf("behind the empty key: %d, %v", at, is)
	}
}

// P8.1: the child of the last entry whose key is not behind, or of the first one; a leaf has none.
func TestChild(t *testing.T) {
	for _, c := range []struct {
		keys   []string
		sought string
		at     int
	}{
		{[]string{"", "m"}, "k", 0},
		{[]string{"", "m"}, "m", 1},
		{[]string{"", "m"}, "", 0},
		{[]string{"", "m"}, "l\xff", 0},
		{[]string{"", "m"}, "m\x00", 1},
		{[]string{"", "m"}, "\xff", 1},
		{[]string{""}, "", 0},
		{[]string{""}, "a", 0},
		{[]string{"m"}, "a", 0},
		{[]string{"m"}, "m", 0},
		{[]string{"m"}, "z", 0},
		{[]string{"b", "d", "f"}, "", 0},
		{[]string{"b", "d", "f"}, "a", 0},
		{[]string{"b", "d", "f"}, "b", 0},
		{[]string{"b", "d", "f"}, "c", 0},
		{[]string{"b", "d", "f"}, "d", 1},
		{[]string{"b", "d", "f"}, "e", 1},
		{[]string{"b", "d", "f"}, "f", 2},
		{[]string{"b", "d", "f"}, strings.Repeat("g", 1<<16), 2},
	} {
		n, at, e := node.Child(inner(c.keys...), c.sought)
		if n != uint32(c.at)+2 || at != c.at || e != api.OK {
			t.Errorf("%q of %q: %d, %d, %v", c.sought, c.keys, n, at, e)
		}
	}
	if n, at, e := node.Child(of(inner(), entry("", 1), entry("a", 1024)), "b"); n != 1024 || at != 1 || e != api.OK {
		t.Errorf("the greatest child: %d, %d, %v", n, at, e)
	}
	for _, p := range []api.Page{leaf(), leaf("a"), leaf("a", "c")} {
		for _, k := range []string{"", "a", "b"} {
			if n, at, e := node.Child(p, k); n != 0 || at != 0 || e != api.ErrForm {
				t.Errorf("of a leaf: %d, %d, %v", n, at, e)
			}
		}
	}
}

// with is a page, a place, a text, whether it is the row's there, and what With answers.
type with struct {
	name string
	p    api.Page
	at   int
	text string
	is   bool
	e    api.Errno
	rows []string
}

// wrong are calls of With whose place or text may not be.
func wrong() []with {
	l := []with{
		{name: "a key that is there", p: leaf("a", "c"), at: 0, text: leafRow("a", 2), e: api.ErrForm},
		{name: "a key that is there, behind it", p: leaf("a", "c"), at: 1, text: leafRow("a", 2), e: api.ErrForm},
		{name: "a key that is there, last", p: leaf("a", "c"), at: 2, text: leafRow("c", 2), e: api.ErrForm},
		{name: "a key that is behind", p: leaf("a", "c"), at: 0, text: leafRow("b", 2), e: api.ErrForm},
		{name: "a key that is ahead", p: leaf("a", "c"), at: 2, text: leafRow("b", 2), e: api.ErrForm},
		{name: "instead, a key that is behind", p: leaf("a", "c"), at: 0, text: leafRow("d", 2), is: true, e: api.ErrForm},
		{name: "instead, the next one's key", p: leaf("a", "c"), at: 0, text: leafRow("c", 2), is: true, e: api.ErrForm},
		{name: "instead, the key ahead", p: leaf("a", "c"), at: 1, text: leafRow("a", 2), is: true, e: api.ErrForm},
		{name: "no row", p: leaf("a", "c"), at: 1, text: "b", e: api.ErrForm},
		{name: "no bytes", p: leaf("a", "c"), at: 1, text: "", e: api.ErrForm},
		{name: "instead, no bytes", p: leaf("a", "c"), at: 1, text: "", is: true, e: api.ErrForm},
		{name: "an entry for a leaf", p: leaf("a", "c"), at: 1, text: entry("b", 7), e: api.ErrForm},
		{name: "a row for an inner page", p: inner("a", "c"), at: 1, text: leafRow("b", 0), e: api.ErrForm},
		{name: "an entry without a child", p: inner("a", "c"), at: 1, text: entry("b", 0), e: api.ErrForm},
		{name: "an entry of a key that is there", p: inner("a", "c"), at: 1, text: entry("a", 9), e: api.ErrForm},
		{name: "an entry of no key, not first", p: inner("a", "c"), at: 1, text: entry("", 9), e: api.ErrForm},
		{name: "an entry of no key, twice", p: inner("", "c"), at: 0, text: entry("", 9), e: api.ErrForm},
		{name: "a value that is too long", p: leaf("a"), at: 1, text: leafRow("b", 97), e: api.ErrForm},
		{name: "a row that is far too long", p: leaf("a"), at: 1, text: leafRow("b", 0) + strings.Repeat("\x00", 1<<16), e: api.ErrForm},
		{name: "no row's bytes where there is no room", p: of(leaf(), leafRow("a", 96), leafRow("b", 96), leafRow("c", 96), leafRow("d", 96)), at: 4, text: strings.Repeat("x", 300), e: api.ErrForm},
		{name: "a key that is ahead where there is no room", p: of(leaf(), leafRow("a", 96), leafRow("b", 96), leafRow("c", 96), leafRow("d", 96)), at: 4, text: leafRow("cc", 96), e: api.ErrForm},
	}
	for _, p := range []api.Page{leaf("b", "c"), inner("b", "c")} {
		for _, text := range []string{leafRow("d", 0), entry("d", 9), "", strings.Repeat("x", 1000)} {
			for _, at := range []int{-1, -2, 3, 4, math.MinInt, math.MaxInt, math.MaxInt - 1, 1 << 32} {
				l = append(l, with{name: "a place that may not be", p: p, at: at, text: text, e: api.ErrArg})
			}
			for _, at := range []int{-1, -2, 2, 3, math.MinInt, math.MaxInt, math.MaxInt - 1, 1 << 32} {
				l = append(l, with{name: "a row that isn't there", p: p, at: at, text: text, is: true, e: api.ErrArg})
			}
		}
	}
	return append(l, with{name: "the row of a leaf without rows", p: leaf(), text: leafRow("d", 0), is: true, e: api.ErrArg})
}

// right are calls of With that have no error, or ErrFull.
func right() []with {
	a, b, c := leafRow("a", 0), leafRow("b", 0), leafRow("c", 0)
	x, y, z := entry("a", 2), entry("b", 9), entry("c", 3)
	three := []string{leafRow("a", 96), leafRow("b", 96), leafRow("c", 96)}
	four := append(slices.Clone(three), leafRow("d", 13))
	keys := inner(names(8, 48)...).Rows
	both := func(l []string, more ...string) []string { return append(slices.Clone(l), more...) }
	return []with{
		{"into no rows", leaf(), 0, b, false, api.OK, []string{b}},
		{"first", leaf("b", "c"), 0, a, false, api.OK, []string{a, b, c}},
		{"between", leaf("a", "c"), 1, b, false, api.OK, []string{a, b, c}},
		{"last", leaf("a", "b"), 2, c, false, api.OK, []string{a, b, c}},
		{"instead of the only one", leaf("a"), 0, c, true, api.OK, []string{c}},
		{"instead of the first one", leaf("b", "c"), 0, a, true, api.OK, []string{a, c}},
		{"instead of the last one", leaf("a", "b"), 1, c, true, api.OK, []string{a, c}},
		{"instead of one of its key", leaf("a", "b", "c"), 1, leafRow("b", 96), true, api.OK, []string{a, leafRow("b", 96), c}},
		{"instead of the same", leaf("a", "b", "c"), 2, c, true, api.OK, []string{a, b, c}},
		{"an entry, first", inner("b"), 0, entry("", 1), false, api.OK, []string{entry("", 1), entry("b", 2)}},
		{"an entry, between", inner("a", "c"), 1, y, false, api.OK, []string{x, y, z}},
		{"an entry, last", inner("a"), 1, y, false, api.OK, []string{x, y}},
		{"an entry instead of the only one", inner("a"), 0, y, true, api.OK, []string{y}},
		{"an entry instead of one of its key", inner("a", "c"), 1, entry("c", 1024), true, api.OK, []string{x, entry("c", 1024)}},
		// Three rows of 114 bytes take 354 bytes of the 484, so 130 are left: a row of 126.
		{"up to the last byte", of(leaf(), three...), 3, leafRow("ddddddddddddd", 96), false, api.OK, both(three, leafRow("ddddddddddddd", 96))},
		{"a byte more", of(leaf(), three...), 3, leafRow("dddddddddddddd", 96), false, api.ErrFull, nil},
		{"the longest one", of(leaf(), three...), 3, leafRow(strings.Repeat("d", 48), 96), false, api.ErrFull, nil},
		// A row of 31 bytes is longer by 95 in all, if it has 126.
		{"instead, up to the last byte", of(leaf(), four...), 3, leafRow("ddddddddddddd", 96), true, api.OK, both(three, leafRow("ddddddddddddd", 96))},
		{"instead, a byte more", of(leaf(), four...), 3, leafRow("dddddddddddddd", 96), true, api.ErrFull, nil},
		{"instead of the first one, a byte more", of(leaf(), both(three, leafRow("ddddddddddddd", 96))...), 0, leafRow("aa", 96), true, api.ErrFull, nil},
		{"instead of the first one, a byte less", of(leaf(), both(three, leafRow("ddddddddddddd", 96))...), 0, leafRow("a", 95), true, api.OK, both([]string{leafRow("a", 95)}, append(three[1:3:3], leafRow("ddddddddddddd", 96))...)},
		// Eight entries of 52 bytes take 448 bytes, so 36 are left: a key of 28.
		{"an entry up to the last byte", of(inner(), keys...), 8, entry(strings.Repeat("z", 28), 1), false, api.OK, both(keys, entry(strings.Repeat("z", 28), 1))},
		{"an entry, a byte more", of(inner(), keys...), 8, entry(strings.Repeat("z", 29), 1), false, api.ErrFull, nil},
		{"an entry, first, a byte more", of(inner(), keys...), 0, entry(strings.Repeat("a", 29), 1), false, api.ErrFull, nil},
	}
}

// P8.2: the text is put at its place, or instead of the row there; all else of the page stays. Fits tells whether.
func TestWith(t *testing.T) {
	for _, c := range append(wrong(), right()...) {
		want := api.Page{}
		if c.e == api.OK {
			want = of(c.p, c.rows...)
		}
		q, e := node.With(c.p, c.at, c.text, c.is)
		if e != c.e || !alike(q, want) {
			t.Errorf("%s: With(%d, %v): %v, %v, not %v, %v", c.name, c.at, c.is, q, e, want, c.e)
		}
		if node.Fits(c.p, c.at, c.text, c.is) != (c.e == api.OK) {
			t.Errorf("%s: Fits(%d, %v)", c.name, c.at, c.is)
		}
		if c.e == api.OK && node.Check(q) != api.OK {
			t.Errorf("%s: it is no node", c.name)
		}
	}
}

// P8.2: the row goes, all else of the page stays; an inner page keeps one.
func TestWithout(t *testing.T) {
	for _, make := range []func(...string) api.Page{leaf, inner} {
		p := make("a", "b", "c")
		for at := range 3 {
			want := of(p, slices.Delete(slices.Clone(p.Rows), at, at+1)...)
			if q, e := node.Without(p, at); e != api.OK || !alike(q, want) {
				t.Errorf("%d: %v, %v", at, q, e)
			}
		}
		for _, at := range []int{-1, 3, 4, math.MinInt, math.MaxInt, 1 << 32} {
			if q, e := node.Without(p, at); e != api.ErrNone || !alike(q, api.Page{}) {
				t.Errorf("%d: %v, %v", at, q, e)
			}
		}
		for _, at := range []int{-1, 1, math.MaxInt} {
			if q, e := node.Without(make("a"), at); e != api.ErrNone || !alike(q, api.Page{}) {
				t.Errorf("%d of one: %v, %v", at, q, e)
			}
		}
	}
	if q, e := node.Without(leaf("a"), 0); e != api.OK || !alike(q, leaf()) {
		t.Errorf("the only one of a leaf: %v, %v", q, e)
	}
	if q, e := node.Without(leaf(), 0); e != api.ErrNone || !alike(q, api.Page{}) {
		t.Errorf("of a leaf without rows: %v, %v", q, e)
	}
	if q, e := node.Without(inner("a"), 0); e != api.ErrForm || !alike(q, api.Page{}) {
		t.Errorf("the only one of an inner page: %v, %v", q, e)
	}
	if q, e := node.Without(inner("", "b"), 0); e != api.OK || !alike(q, of(inner(), entry("b", 3))) {
		t.Errorf("the empty one of an inner page: %v, %v", q, e)
	}
}

// sized is a leaf whose rows have keys a, b and so on, and values of so many bytes: each weighs 22 more.
func sized(values ...int) api.Page {
	p := leaf()
	for i, n := range values {
		p.Rows = append(p.Rows, leafRow(string([]byte{byte('a' + i)}), n))
	}
	return p
}

// P8.3: rows are cut where the weights differ least, of equals where the left part is shorter.
func TestSplit(t *testing.T) {
	for _, c := range []struct {
		name   string
		values []int // of the rows; the first one is put at the place 0, instead of one that is there
		left   int
	}{
		{"two", []int{0, 0}, 1},
		{"two, the first one heavy", []int{96, 0}, 1},
		{"two, the last one heavy", []int{0, 96}, 1},
		{"three alike, so that both cuts differ alike", []int{5, 5, 5}, 1},
		{"three, the first one lighter by a byte", []int{4, 5, 5}, 2},
		{"three, the last one lighter by a byte", []int{5, 5, 4}, 1},
		{"three, the first one heavy", []int{96, 0, 0}, 1},
		{"three, the last one heavy", []int{0, 0, 96}, 2},
		{"three, the middle one heavy", []int{0, 96, 0}, 1},
		{"three, the middle one heavy, the last one heavier than the first: 140 | 23", []int{0, 96, 1}, 2},
		{"three, the middle one heavy, the first one heavier than the last: 23 | 140", []int{1, 96, 0}, 1},
		{"four alike", []int{7, 7, 7, 7}, 2},
		{"five alike", []int{7, 7, 7, 7, 7}, 2},
		{"by bytes, not by rows", []int{96, 0, 0, 0, 0, 0}, 1},
		{"by bytes, not by rows, the other way", []int{0, 0, 0, 0, 0, 96}, 5},
		{"by places in the directory too: 22 22 22 | 66", []int{0, 0, 0, 44}, 3},
		{"a heavy row, and as heavy as both beside it", []int{0, 22, 0}, 1},
	} {
		p := sized(c.values...)
		was := of(p, append([]string{leafRow("a", 0)}, p.Rows[1:]...)...)
		l, r, s, e := node.Split(was, 0, p.Rows[0], true)
		if e != api.OK || !slices.Equal(l, p.Rows[:c.left]) || !slices.Equal(r, p.Rows[c.left:]) {
			t.Errorf("%s: %d and %d, %v, not %d", c.name, len(l), len(r), e, c.left)
		}
		if want := string([]byte{byte('a' + c.left)}); s != want {
			t.Errorf("%s: separator %q, not %q", c.name, s, want)
		}
	}
}

// P8.3: the text is put at its place, or instead of the row there, ahead of the split; also where it has no room.
func TestSplitPlace(t *testing.T) {
	full := of(leaf(), leafRow("b", 96), leafRow("d", 96), leafRow("f", 96), leafRow("h", 96))
	b, d, f, h := full.Rows[0], full.Rows[1], full.Rows[2], full.Rows[3]
	a, c, i := leafRow("a", 96), leafRow("c", 96), leafRow("i", 96)
	for _, x := range []struct {
		at          int
		text        string
		is          bool
		left, right []string
		sep         string
	}{
		{0, a, false, []string{a, b}, []string{d, f, h}, "d"},
		{1, c, false, []string{b, c}, []string{d, f, h}, "d"},
		{4, i, false, []string{b, d}, []string{f, h, i}, "f"},
		{0, a, true, []string{a, d}, []string{f, h}, "f"},
		{1, c, true, []string{b, c}, []string{f, h}, "f"},
		{3, i, true, []string{b, d}, []string{f, i}, "f"},
	} {
		l, r, s, e := node.Split(full, x.at, x.text, x.is)
		if e != api.OK || !slices.Equal(l, x.left) || !slices.Equal(r, x.right) || s != x.sep {
			t.Errorf("%d, %v: %q, %q, %q, %v", x.at, x.is, l, r, s, e)
		}
	}
}

// P8.3: With's errors, but ErrFull; one row can't be split.
func TestSplitNone(t *testing.T) {
	for _, c := range wrong() {
		if l, r, s, e := node.Split(c.p, c.at, c.text, c.is); len(l) != 0 || len(r) != 0 || s != "" || e != c.e {
			t.Errorf("%s: %q, %q, %q, %v", c.name, l, r, s, e)
		}
	}
	for _, c := range right() {
		l, r, s, e := node.Split(c.p, c.at, c.text, c.is)
		if len(c.rows) == 1 {
			if len(l) != 0 || len(r) != 0 || s != "" || e != api.ErrArg {
				t.Errorf("%s: %q, %q, %q, %v", c.name, l, r, s, e)
			}
			continue
		}
		if len(l) == 0 || len(r) == 0 || e != api.OK || c.e == api.OK && !slices.Equal(slices.Concat(l, r), c.rows) {
			t.Errorf("%s: %q, %q, %q, %v", c.name, l, r, s, e)
		}
	}
}

// P8.3: the separator is the shortest beginning of the first key on the right that is behind the last one on the left; of inner pages that key, whole.
func TestSplitSeparator(t *testing.T) {
	for _, c := range []struct{ left, right, leaf string }{
		{"abc", "abxy", "abx"},
		{"ab", "abc", "abc"},
		{"ab", "abcd", "abc"},
		{"a", "bcd", "b"},
		{"a", "a\x00\x00", "a\x00"},
		{"a\xff\xff", "b", "b"},
		{"\xfe", "\xff\xff", "\xff"},
	} {
		for at, rest := range []string{c.right, c.left} {
			text := []string{c.left, c.right}[at]
			if l, r, s, e := node.Split(leaf(rest), at, leafRow(text, 0), false); len(l) != 1 || len(r) != 1 || s != c.leaf || e != api.OK {
				t.Errorf("%q, %q: %q, %q, %q, %v", c.left, c.right, l, r, s, e)
			}
			if l, r, s, e := node.Split(inner(rest), at, entry(text, 4), false); len(l) != 1 || len(r) != 1 || s != c.right || e != api.OK {
				t.Errorf("entries %q, %q: %q, %q, %q, %v", c.left, c.right, l, r, s, e)
			}
		}
	}
	l, r, s, e := node.Split(inner("", "long"), 2, entry("longer", 4), false)
	if want := inner("", "long", "longer").Rows; !slices.Equal(l, want[:2]) || !slices.Equal(r, want[2:]) || s != "longer" || e != api.OK {
		t.Errorf("8, 12 | 14: %q, %q, %q, %v", l, r, s, e)
	}
}

// P8.3: the left page with the rows of both, and the right one's next page.
func TestMerge(t *testing.T) {
	high := func(p api.Page, level uint8) api.Page {
		p.Level = level
		return p
	}
	other := func(p api.Page) api.Page {
		p.Id, p.LSN, p.Next = 1000, 12345, 11
		return p
	}
	three := sized(96, 96, 96)
	// Eight entries of 52 bytes take 448 bytes.
	keys := inner(names(8, 48)...)
	for _, c := range []struct {
		name        string
		left, right api.Page
		e           api.Errno
	}{
		{"leaves", leaf("a", "b"), leaf("c", "d"), api.OK},
		{"leaves of a row each", leaf("a"), leaf("a\x00"), api.OK},
		{"a leaf without rows on the left", leaf(), leaf("c"), api.OK},
		{"a leaf without rows on the right", leaf("c"), leaf(), api.OK},
		{"leaves without rows", leaf(), leaf(), api.OK},
		{"inner pages", inner("", "b"), inner("c", "d"), api.OK},
		{"inner pages of an entry each", inner(""), inner("\x00"), api.OK},
		{"inner pages of Level 255", high(inner("a"), 255), high(inner("b"), 255), api.OK},
		{"a leaf, and an inner page", leaf("a"), inner("b"), api.ErrArg},
		{"an inner page, and a leaf", inner("a"), leaf("b"), api.ErrArg},
		{"a leaf without rows, and an inner page", leaf(), inner("b"), api.ErrArg},
		{"inner pages of other Levels", high(inner("a"), 1), high(inner("b"), 2), api.ErrArg},
		{"inner pages of other Levels, their keys mixed", high(inner("b"), 2), high(inner("a"), 1), api.ErrArg},
		{"leaves of one key", leaf("a"), leaf("a"), api.ErrForm},
		{"leaves with one key", leaf("a", "b"), leaf("b", "c"), api.ErrForm},
		{"leaves that are swapped", leaf("c", "d"), leaf("a", "b"), api.ErrForm},
		{"leaves, a key of the left one behind but one", leaf("a", "c"), leaf("b", "d"), api.ErrForm},
		{"leaves, the left one's keys around", leaf("a", "d"), leaf("b", "c"), api.ErrForm},
		{"inner pages with one key", inner("a", "b"), inner("b"), api.ErrForm},
		{"inner pages, the right one with the empty key", inner("a"), inner("", "b"), api.ErrForm},
		{"inner pages, both with the empty key", inner("", "a"), inner("", "b"), api.ErrForm},
		{"leaves up to the last byte", three, of(leaf(), leafRow("ddddddddddddd", 96)), api.OK},
		{"leaves with a byte too much", three, of(leaf(), leafRow("dddddddddddddd", 96)), api.ErrFull},
		{"full leaves", three, of(leaf(), leafRow("d", 96), leafRow("e", 96), leafRow("f", 96)), api.ErrFull},
		{"full leaves that are swapped", of(leaf(), leafRow("d", 96), leafRow("e", 96), leafRow("f", 96)), three, api.ErrForm},
		{"inner pages up to the last byte", keys, of(inner(), entry(strings.Repeat("z", 28), 1)), api.OK},
		{"inner pages with a byte too much", keys, of(inner(), entry(strings.Repeat("z", 29), 1)), api.ErrFull},
	} {
		for _, right := range []api.Page{c.right, other(c.right)} {
			want := api.Page{}
			if c.e == api.OK {
				want = of(c.left, slices.Concat(c.left.Rows, right.Rows)...)
				want.Next = right.Next
			}
			q, e := node.Merge(c.left, right)
			if e != c.e || !alike(q, want) {
				t.Errorf("%s: %v, %v, not %v, %v", c.name, q, e, want, c.e)
			}
			if e == api.OK && node.Check(q) != api.OK {
				t.Errorf("%s: it is no node", c.name)
			}
		}
	}
}

// P8.3: small is what weighs less than a third of 488 bytes: up to 162, whatever page it is.
func TestSmall(t *testing.T) {
	long := strings.Repeat("l", 1<<20)
	for _, c := range []struct {
		name  string
		rows  []string
		small bool
	}{
		{"nothing", nil, true},
		{"an empty row", []string{""}, true},
		{"162, in one", []string{long[:158]}, true},
		{"163, in one", []string{long[:159]}, false},
		{"162, in two", []string{long[:100], long[:54]}, true},
		{"163, in two", []string{long[:100], long[:55]}, false},
		{"160, in places alone", make([]string, 40), true},
		{"164, in places alone", make([]string, 41), false},
		{"the last one heavy", []string{"", "", long[:151]}, false},
		{"a full one", []string{long[:480]}, false},
		{"far too much", slices.Repeat([]string{long}, 1<<10), false},
		{"far too many", make([]string, 1<<20), false},
	} {
		for _, p := range []api.Page{leaf(), inner(), {}, {Kind: api.PageUndo, Id: 7}, {Kind: 77, Level: 3, Id: 5000, Next: 5000}} {
			if node.Small(of(p, c.rows...)) != c.small {
				t.Errorf("%s: %v", c.name, !c.small)
			}
		}
	}
	if p := sized(96, 4); !node.Small(of(p, p.Rows[0])) || node.Small(of(p, p.Rows[0], leafRow("b", 23))) {
		t.Error("118, and 163, in rows")
	}
}

// P8.4, at its edge: two rows of 161 bytes beside as much as there is room for are split so that both parts have room, and are merged again if all had.
func TestSplitLong(t *testing.T) {
	long := func(c string) string { return leafRow(strings.Repeat(c, 48), 96) }
	for _, x := range []struct {
		p    api.Page
		at   int
		text string
		is   bool
	}{
		{of(leaf(), long("b"), long("c")), 0, long("a"), false},
		{of(leaf(), long("b"), long("c")), 2, long("d"), false},
		{of(leaf(), leafRow("a", 96), leafRow("b", 96), leafRow("c", 96), leafRow("ddddddddddddd", 96)), 4, long("e"), false},
		{of(leaf(), leafRow("a", 96), leafRow("b", 96), leafRow("c", 96), leafRow("ddddddddddddd", 96)), 0, long("A"), false},
		{of(leaf(), leafRow("a", 96), leafRow("b", 96), leafRow("c", 96), leafRow("ddddddddddddd", 96)), 0, long("a"), true},
		{inner(names(8, 48)...), 8, entry(strings.Repeat("z", 48), 1), false},
	} {
		l, r, s, e := node.Split(x.p, x.at, x.text, x.is)
		left, right := of(x.p, l...), of(x.p, r...)
		if e != api.OK || node.Check(left) != api.OK || node.Check(right) != api.OK {
			t.Fatalf("%d and %d rows, %v", len(l), len(r), e)
		}
		whole, e := node.Merge(left, right)
		fits, no := node.With(x.p, x.at, x.text, x.is)
		if e != no || !alike(whole, fits) {
			t.Errorf("merged: %v, %v, not %v, %v", whole, e, fits, no)
		}
		last, _ := node.Key(left, len(l)-1)
		first, _ := node.Key(right, 0)
		if key.Compare(s, last) <= 0 || key.Compare(s, first) > 0 {
			t.Errorf("separator %q of %q, %q", s, last, first)
		}
	}
}

// apart fails, if a row's bytes are another one's of these lists.
func apart(t *testing.T, what string, lists ...[]string) {
	t.Helper()
	seen := map[*byte]bool{}
	for _, r := range slices.Concat(lists...) {
		if seen[unsafe.StringData(r)] {
			t.Errorf("%s: a row's bytes are another one's", what)
		}
		seen[unsafe.StringData(r)] = true
	}
}

// R5: what is handed in stays as it is, what is answered is new; no two lists of an answer share any.
func TestNew(t *testing.T) {
	for _, p := range []api.Page{leaf("b", "d", "f"), inner("b", "d", "f")} {
		// There is room behind the rows, so that what would be added to the list itself is seen.
		p.Rows = append(slices.Grow(slices.Clone(p.Rows), 8), "tail")[:3]
		was := slices.Clone(p.Rows[:4])
		text := strings.Clone(was[1][:len(was[1])-1] + "e")
		if p.Kind == api.PageLeaf {
			text = leafRow("e", 0)
		}
		put, e1 := node.With(p, 2, text, false)
		set, e2 := node.With(p, 1, text, true)
		less, e3 := node.Without(p, 0)
		l, r, _, e4 := node.Split(p, 2, text, false)
		for _, e := range []api.Errno{e1, e2, e3, e4} {
			if e != api.OK {
				t.Fatal(e)
			}
		}
		apart(t, "With", p.Rows, []string{text}, put.Rows)
		apart(t, "With, instead", p.Rows, []string{text}, set.Rows)
		apart(t, "Without", p.Rows, less.Rows)
		apart(t, "Split", p.Rows, []string{text}, l, r)
		whole := slices.Concat(l, r)
		_, _ = append(l, "x"), append(r, "y")
		if !slices.Equal(slices.Concat(l, r), whole) {
			t.Error("Split: what is added to the left part is in the right one")
		}
		right := of(p, r...)
		left := of(p, append(slices.Grow(slices.Clone(l), 8), "tail")[:len(l)]...)
		both, e := node.Merge(left, right)
		if e != api.OK {
			t.Fatal(e)
		}
		apart(t, "Merge", left.Rows, right.Rows, both.Rows)
		if left.Rows[:len(l)+1][len(l)] != "tail" {
			t.Error("Merge: the left page's list is changed")
		}
		for _, q := range []api.Page{put, set, less, both} {
			for i := range q.Rows {
				q.Rows[i] = "changed"
			}
		}
		if !slices.Equal(p.Rows[:4], was) {
			t.Errorf("what was handed in is %q", p.Rows[:4])
		}
	}
	p := leaf("abc", "abxy")
	k, _ := node.Key(p, 1)
	_, _, s, _ := node.Split(leaf("abxy"), 0, leafRow("abc", 0), false)
	q := inner("abc", "abxy")
	_, _, whole, _ := node.Split(of(q, q.Rows[1]), 0, q.Rows[0], false)
	if k != "abxy" || s != "abx" || whole != "abxy" {
		t.Fatalf("%q, %q, %q", k, s, whole)
	}
	for _, row := range [][2]string{{k, p.Rows[1]}, {whole, q.Rows[1]}} {
		at := strings.Index(row[1], row[0])
		if unsafe.StringData(row[0]) == unsafe.StringData(row[1][at:]) {
			t.Errorf("%q is a piece of its row", row[0])
		}
	}
}
