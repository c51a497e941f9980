package op_test

import (
	"math"
	"reflect"
	"slices"
	"strings"
	"testing"
	"unsafe"

	"pentimento/api"
	"pentimento/op"
)

// alike: whether both ops are the same, as the library says; a list of no rows is none.
func alike(a, b api.Op) bool {
	for _, o := range []*api.Op{&a, &b} {
		if len(o.Rows) == 0 {
			o.Rows = nil
		}
	}
	return reflect.DeepEqual(a, b)
}

// samePage: whether both pages are the same, as the library says; a list of no rows is none.
func samePage(a, b api.Page) bool {
	for _, p := range []*api.Page{&a, &b} {
		if len(p.Rows) == 0 {
			p.Rows = nil
		}
	}
	return reflect.DeepEqual(a, b)
}

// text is n bytes.
func text(n int) string { return strings.Repeat("t", n) }

// many is one text so often.
func many(n int, s string) []string {
	l := make([]string, n)
	for i := range l {
		l[i] = s
	}
	return l
}

// one is an op of each kind, in order, with something in each part that the kind has, of page 772, which is 3 4 as bytes.
func one() []api.Op {
	return []api.Op{
		{Kind: api.OpFormat, Page: 772, PKind: 2, Level: 9, Next: 515},
		{Kind: api.OpPut, Page: 772, At: 258, Text: "xyz"},
		{Kind: api.OpSet, Page: 772, At: 259, Text: "xy"},
		{Kind: api.OpDrop, Page: 772, At: 260},
		{Kind: api.OpCut, Page: 772, At: 261},
		{Kind: api.OpFill, Page: 772, Rows: []string{"a", "", "bc"}},
		{Kind: api.OpNext, Page: 772, Next: 516},
		{Kind: api.OpPatch, Page: 772, At: 262, Off: 263, Text: "p"},
	}
}

// leaf is a page with three rows.
func leaf() api.Page {
	return api.Page{Kind: api.PageLeaf, Level: 3, Id: 7, LSN: 300, Next: 8, Rows: []string{"ab", "cde", "f"}}
}

// with is the page leaf with other rows, at another LSN.
func with(lsn uint64, rows ...string) api.Page {
	p := leaf()
	p.LSN, p.Rows = lsn, rows
	return p
}

// maybe fails, unless the op may be just as it is told, also for those that are handed it.
func maybe(t *testing.T, what string, o api.Op, may bool) {
	t.Helper()
	if op.May(o) != may {
		t.Errorf("%s: May(%v): %v", what, o, !may)
	}
	s, e := op.Encode(o)
	if may {
		if s != plainList(o) || e != api.OK {
			t.Errorf("%s: Encode(%v): %q, %v", what, o, s, e)
		}
		if l, e := op.Decode(plainList(o)); e != api.OK || len(l) != 1 || !alike(l[0], o) {
			t.Errorf("%s: Decode(%q): %v, %v", what, plainList(o), l, e)
		}
		return
	}
	if s != "" || e != api.ErrArg {
		t.Errorf("%s: Encode(%v): %q, %v", what, o, s, e)
	}
	for _, l := range [][]api.Op{{o, one()[0]}, {one()[0], o}} {
		if s, e := op.Encode(l...); s != "" || e != api.ErrArg {
			t.Errorf("%s: Encode(%v): %q, %v", what, l, s, e)
		}
	}
	p := leaf()
	p.Id = o.Page
	if q, e := op.Apply(p, o, 301); !samePage(q, api.Page{}) || e != api.ErrArg {
		t.Errorf("%s: Apply(%v): %v, %v", what, o, q, e)
	}
	if q, e := op.Redo(p, 301, o); !samePage(q, p) || e != api.ErrArg {
		t.Errorf("%s: Redo(%v): %v, %v", what, o, q, e)
	}
}

// P11.1, P11.2: numbers of each part, of ops of each kind that has it.
func TestMay(t *testing.T) {
	type change func(o *api.Op, n int)
	page := func(o *api.Op, n int) { o.Page = uint32(n) }
	at := func(o *api.Op, n int) { o.At = n }
	off := func(o *api.Op, n int) { o.Off = n }
	size := func(o *api.Op, n int) { o.Text = text(n) }
	rows := func(o *api.Op, n int) { o.Rows = many(n, "") }
	pkind := func(o *api.Op, n int) { o.PKind = uint8(n) }
	level := func(o *api.Op, n int) { o.Level = uint8(n) }
	next := func(o *api.Op, n int) { o.Next = uint32(n) }
	all := []uint8{1, 2, 3, 4, 5, 6, 7, 8}
	for _, c := range []struct {
		name    string
		to      change
		kinds   []uint8
		may, no []int
	}{
		{"page", page, all, []int{1, 2, 255, 256, 1023, 1024}, []int{0, 1025, 65536, 65537, math.MaxInt32, 1 << 31, math.MaxUint32}},
		{"at", at, []uint8{2, 3, 4, 5, 8}, []int{0, 1, 121, 122, 255, 256, 487, 488}, []int{489, 512, 65536, 65537, 1 << 32, math.MaxInt, -1, -65535, math.MinInt}},
		{"off", off, []uint8{8}, []int{0, 1, 255, 256, 487, 488}, []int{489, 512, 65536, 65537, 1 << 32, math.MaxInt, -1, -65535, math.MinInt}},
		{"text", size, []uint8{2, 3, 8}, []int{0, 1, 255, 256, 480, 487, 488}, []int{489, 490, 512, 65535, 65536, 65537, 1 << 20}},
		{"rows", rows, []uint8{6}, []int{0, 1, 121, 122, 255, 256, 487, 488}, []int{489, 490, 65535, 65536, 65537, 1 << 20}},
		{"kind of a page", pkind, []uint8{1}, []int{0, 1, 2, 3, 4, 5}, []int{6, 7, 128, 255}},
		{"level", level, []uint8{1}, []int{0, 1, 7, 8, 9, 255}, nil},
		{"next", next, []uint8{1, 7}, []int{0, 1, 772, 1023, 1024}, []int{1025, 65536, 65537, math.MaxInt32, 1 << 31, math.MaxUint32}},
	} {
		for _, kind := range c.kinds {
			for i, n := range append(slices.Clone(c.may), c.no...) {
				o := one()[kind-1]
				c.to(&o, n)
				maybe(t, c.name, o, i < len(c.may))
			}
		}
		// Of a kind that has it not it is zero.
		for _, kind := range all {
			if slices.Contains(c.kinds, kind) {
				continue
			}
			for _, n := range append(slices.Clone(c.may), c.no...) {
				o := one()[kind-1]
				c.to(&o, n)
				maybe(t, c.name+", where there is none", o, n == 0)
			}
		}
	}
}

// P11.1: each of the kinds, no other one, whatever else it has, or has not.
func TestKinds(t *testing.T) {
	for kind := range 256 {
		is := kind >= 1 && kind <= 8
		maybe(t, "with nothing else", api.Op{Kind: uint8(kind), Page: 5}, is)
		maybe(t, "with all", api.Op{Kind: uint8(kind), Page: 5, At: 1, Off: 1, Text: "a", Rows: []string{"a"}, PKind: 1, Level: 1, Next: 1}, false)
		for i, o := range one() {
			o.Kind = uint8(kind)
			// An op to put is one to set as well, one to drop is one to cut, and the other ones are of their kind alone.
			alsoIs := kind == i+1 || kind == 2 && i == 2 || kind == 3 && i == 1 || kind == 4 && i == 4 || kind == 5 && i == 3
			// What has no part but some of another kind's is of that kind, too.
			alsoIs = alsoIs || kind == 1 && i == 6 || kind == 8 && i >= 1 && i <= 4 || (kind == 2 || kind == 3) && (i == 3 || i == 4)
			maybe(t, "of another kind", o, alsoIs)
		}
	}
	maybe(t, "nothing", api.Op{}, false)
}

// P11.1: rows together have at most 488 bytes, in whatever order.
func TestRowsTogether(t *testing.T) {
	long := text(1 << 20)
	for _, c := range []struct {
		rows []string
		may  bool
	}{
		{[]string{}, true},
		{[]string{""}, true},
		{[]string{text(488)}, true},
		{[]string{text(489)}, false},
		{[]string{text(244), text(244)}, true},
		{[]string{text(244), text(245)}, false},
		{[]string{text(245), text(244)}, false},
		{[]string{"", text(488), ""}, true},
		{[]string{"", text(488), "", "a"}, false},
		{many(488, "a"), true},
		{append(many(487, "a"), ""), true},
		{append(many(487, "a"), "ab"), false},
		{append(many(487, ""), text(488)), true},
		{append(many(488, ""), ""), false},
		{many(489, "a"), false},
		{[]string{long, long}, false},
		{many(2000, long), false},
	} {
		o := api.Op{Kind: api.OpFill, Page: 7, Rows: c.rows}
		if op.May(o) != c.may {
			t.Errorf("%d rows: %v", len(c.rows), !c.may)
		}
		if s, e := op.Encode(o); c.may && (s != plainList(o) || e != api.OK) || !c.may && (s != "" || e != api.ErrArg) {
			t.Errorf("%d rows: Encode: %d bytes, %v", len(c.rows), len(s), e)
		}
	}
}

// P11.1: bytes written out.
func TestBytes(t *testing.T) {
	parts := []string{
		"\x01\x00\x00\x03\x04\x02\x09\x00\x00\x02\x03",
		"\x02\x00\x00\x03\x04\x01\x02\x00\x03xyz",
		"\x03\x00\x00\x03\x04\x01\x03\x00\x02xy",
		"\x04\x00\x00\x03\x04\x01\x04",
		"\x05\x00\x00\x03\x04\x01\x05",
		"\x06\x00\x00\x03\x04\x00\x03\x00\x01a\x00\x00\x00\x02bc",
		"\x07\x00\x00\x03\x04\x00\x00\x02\x04",
		"\x08\x00\x00\x03\x04\x01\x06\x01\x07\x00\x01p",
	}
	same := func(s string, l ...api.Op) {
		t.Helper()
		if got, e := op.Encode(l...); got != s || e != api.OK {
			t.Errorf("Encode(%v): %q, %v, not %q", l, got, e, s)
		}
		if got, e := op.Decode(s); !slices.EqualFunc(got, l, alike) || e != api.OK {
			t.Errorf("Decode(%q): %v, %v, not %v", s, got, e, l)
		}
	}
	l := one()
	for i, s := range parts {
		same("\x01"+s, l[i])
		same("\x02"+s+s, l[i], l[i])
	}
	same("\x08"+strings.Join(parts, ""), l...)
	slices.Reverse(l)
	slices.Reverse(parts)
	same("\x08"+strings.Join(parts, ""), l...)
	same("\x00")
	same("\x01\x02\x00\x00\x00\x01\x00\x00\x00\x01x", api.Op{Kind: api.OpPut, Page: 1, Text: "x"})
	same("\x01\x02\x00\x00\x04\x00\x01\xe8\x01\xe8"+text(488), api.Op{Kind: api.OpPut, Page: 1024, At: 488, Text: text(488)})
	same("\x01\x06\x00\x00\x00\x01\x00\x00", api.Op{Kind: api.OpFill, Page: 1})
	same("\x01\x06\x00\x00\x00\x01\x01\xe8"+strings.Repeat("\x00\x00", 488), api.Op{Kind: api.OpFill, Page: 1, Rows: many(488, "")})
	same("\x01\x01\x00\x00\x00\x01\x05\xff\x00\x00\x04\x00", api.Op{Kind: api.OpFormat, Page: 1, PKind: 5, Level: 255, Next: 1024})
}

// P11.1: ErrLong beyond 32 ops, ahead of ErrArg; and no longer list is read.
func TestManyOps(t *testing.T) {
	for _, n := range []int{0, 1, 31, 32, 33, 34, 255, 256, 257, 288, 65536} {
		for _, o := range []api.Op{one()[3], {}} {
			l := make([]api.Op, n)
			for i := range l {
				l[i] = o
			}
			want := api.OK
			switch {
			case n > 32:
				want = api.ErrLong
			case n > 0 && o.Kind == 0:
				want = api.ErrArg
			}
			s, e := op.Encode(l...)
			if e != want || e == api.OK && s != plainList(l...) || e != api.OK && s != "" {
				t.Errorf("%d ops: Encode: %q, %v, not %v", n, s, e, want)
			}
		}
		if n > 255 {
			continue
		}
		s := bytesOf(n, 1) + strings.Repeat(plainOp(one()[3]), n)
		if l, e := op.Decode(s); n <= 32 && (len(l) != n || e != api.OK) || n > 32 && (l != nil || e != api.ErrForm) {
			t.Errorf("%d ops: Decode: %d ops, %v", n, len(l), e)
		}
	}
}

// P11.1: a list that is cut, or longer, or has another count is ErrForm.
func TestDecodeCut(t *testing.T) {
	none := func(s string) {
		t.Helper()
		if l, e := op.Decode(s); l != nil || e != api.ErrForm {
			t.Errorf("Decode(%q): %v, %v", s, l, e)
		}
	}
	for _, l := range [][]api.Op{one(), {one()[5]}, {one()[7], one()[1]}} {
		s := plainList(l...)
		for i := range s {
			none(s[:i])
		}
		for _, more := range []string{"\x00", "\x01", "a", s, text(1 << 16)} {
			none(s + more)
		}
		for n := range 256 {
			if n != len(l) {
				none(bytesOf(n, 1) + s[1:])
			}
		}
	}
	none("")
	none("\x00\x00")
	none(strings.Repeat("\xff", 1<<16))
	none(strings.Repeat("\x20", 1<<16))
	none(strings.Repeat("\x06", 1<<20))
	none("\x01\x06\x00\x00\x00\x01\xff\xff")
	none("\x01\x06\x00\x00\x00\x01\xff\xff" + strings.Repeat("\x00\x00", 65535))
	none("\x01\x06\x00\x00\x00\x01\x00\x02\x00\x03a\x00\x00")
	none("\x01\x02\x00\x00\x00\x01\x00\x00\xff\xffx")
	none("\x01\x02\x00\x00\x00\x01\x00\x00\xff\xff" + text(65535))
}

// P11.1: each part out of its limits, as bytes, is ErrForm.
func TestDecodeForm(t *testing.T) {
	for _, o := range []api.Op{
		{Kind: 2}, {Kind: 4, Page: 1025}, {Kind: 4, Page: math.MaxUint32},
		{Kind: 2, Page: 1, At: 489}, {Kind: 3, Page: 1, At: 65535}, {Kind: 4, Page: 1, At: 489}, {Kind: 5, Page: 1, At: 489},
		{Kind: 8, Page: 1, At: 489}, {Kind: 8, Page: 1, Off: 489}, {Kind: 8, Page: 1, Off: 65535},
		{Kind: 2, Page: 1, Text: text(489)}, {Kind: 3, Page: 1, Text: text(489)}, {Kind: 8, Page: 1, Text: text(489)},
		{Kind: 6, Page: 1, Rows: many(489, "")}, {Kind: 6, Page: 1, Rows: []string{text(244), text(245)}},
		{Kind: 1, Page: 1, PKind: 6}, {Kind: 1, Page: 1, PKind: 255},
		{Kind: 1, Page: 1, Next: 1025}, {Kind: 7, Page: 1, Next: 1025}, {Kind: 7, Page: 1, Next: math.MaxUint32},
	} {
		for _, l := range [][]api.Op{{o}, {o, one()[3]}, {one()[3], o}, {one()[0], o, one()[7]}} {
			if got, e := op.Decode(plainList(l...)); got != nil || e != api.ErrForm {
				t.Errorf("Decode of %v: %v, %v", l, got, e)
			}
		}
	}
	for kind := range 256 {
		for _, tail := range []string{"", "\x00\x00\x00\x00", "\x00\x00\x00\x00\x00\x00"} {
			reads(t, "\x01"+bytesOf(kind, 1)+"\x00\x00\x00\x01"+tail)
		}
	}
}

// P11.1: both are the same just if each part is, and each row at its place, also of what may not be.
func TestSame(t *testing.T) {
	l := []api.Op{
		{},
		{Kind: 1}, {Kind: 2}, {Kind: 255},
		{Page: 1}, {Page: 257}, {Page: 1 << 31},
		{At: 1}, {At: 257}, {At: -1}, {At: math.MaxInt}, {At: math.MinInt},
		{Off: 1}, {Off: 257}, {Off: -1},
		{Text: "a"}, {Text: "b"}, {Text: "ab"}, {Text: "\x00"},
		{Rows: []string{""}}, {Rows: []string{"", ""}}, {Rows: []string{"a"}}, {Rows: []string{"ab"}}, {Rows: []string{"a", "b"}}, {Rows: []string{"b", "a"}}, {Rows: many(500, "")},
		{PKind: 1}, {PKind: 255},
		{Level: 1}, {Level: 255},
		{Next: 1}, {Next: 257}, {Next: 1 << 31},
	}
	l = append(l, one()...)
	for i, a := range l {
		for k, b := range l {
			b.Rows = append([]string{}, b.Rows...)
			if op.Same(a, b) != (i == k) || op.Same(b, a) != (i == k) {
				t.Errorf("Same(%v, %v): %v, %v", a, b, op.Same(a, b), op.Same(b, a))
			}
		}
	}
}

// P11.1: the pages of all, also of ops that may not be.
func TestPages(t *testing.T) {
	for _, c := range []struct{ of, want []uint32 }{
		{nil, nil},
		{[]uint32{5}, []uint32{5}},
		{[]uint32{5, 5, 5}, []uint32{5}},
		{[]uint32{5, 3, 5, 4, 3}, []uint32{3, 4, 5}},
		{[]uint32{1, 2, 3}, []uint32{1, 2, 3}},
		{[]uint32{1024, 1, 256, 255}, []uint32{1, 255, 256, 1024}},
		{[]uint32{math.MaxUint32, 0, 1025, 1 << 31, 0}, []uint32{0, 1025, 1 << 31, math.MaxUint32}},
	} {
		var l []api.Op
		for i, id := range c.of {
			l = append(l, api.Op{Kind: uint8(i), Page: id, At: -i})
		}
		if got := op.Pages(l...); !slices.Equal(got, c.want) {
			t.Errorf("the pages of %v: %v", c.of, got)
		}
		for i, id := range c.of {
			if !alike(l[i], api.Op{Kind: uint8(i), Page: id, At: -i}) {
				t.Errorf("op %d has become %v", i, l[i])
			}
		}
	}
	var l []api.Op
	for i := range 5000 {
		l = append(l, api.Op{Page: uint32(i * 7919 % 100)})
	}
	if got := op.Pages(l...); len(got) != 100 || got[0] != 0 || got[99] != 99 || !slices.IsSorted(got) {
		t.Errorf("the pages of many ops: %v", got)
	}
}

// P11.2: what an op of each kind does to a page.
func TestApply(t *testing.T) {
	other := leaf()
	other.LSN, other.Next = 301, 1024
	none := leaf()
	none.LSN, none.Next = 301, 0
	for _, c := range []struct {
		name string
		o    api.Op
		want api.Page
	}{
		{"format", api.Op{Kind: api.OpFormat, PKind: 5, Level: 255, Next: 1024}, api.Page{Kind: 5, Level: 255, Id: 7, LSN: 301, Next: 1024}},
		{"format, all zero", api.Op{Kind: api.OpFormat}, api.Page{Id: 7, LSN: 301}},
		{"put first", api.Op{Kind: api.OpPut, Text: "x"}, with(301, "x", "ab", "cde", "f")},
		{"put between", api.Op{Kind: api.OpPut, At: 1, Text: "x"}, with(301, "ab", "x", "cde", "f")},
		{"put ahead of the last one", api.Op{Kind: api.OpPut, At: 2, Text: "x"}, with(301, "ab", "cde", "x", "f")},
		{"put last", api.Op{Kind: api.OpPut, At: 3, Text: "x"}, with(301, "ab", "cde", "f", "x")},
		{"put nothing", api.Op{Kind: api.OpPut, At: 1}, with(301, "ab", "", "cde", "f")},
		{"set the first one", api.Op{Kind: api.OpSet, Text: "xyz"}, with(301, "xyz", "cde", "f")},
		{"set the last one", api.Op{Kind: api.OpSet, At: 2, Text: "xyz"}, with(301, "ab", "cde", "xyz")},
		{"set to nothing", api.Op{Kind: api.OpSet, At: 1}, with(301, "ab", "", "f")},
		{"drop the first one", api.Op{Kind: api.OpDrop}, with(301, "cde", "f")},
		{"drop one between", api.Op{Kind: api.OpDrop, At: 1}, with(301, "ab", "f")},
		{"drop the last one", api.Op{Kind: api.OpDrop, At: 2}, with(301, "ab", "cde")},
		{"cut all", api.Op{Kind: api.OpCut}, with(301)},
		{"cut some", api.Op{Kind: api.OpCut, At: 1}, with(301, "ab")},
		{"cut the last one", api.Op{Kind: api.OpCut, At: 2}, with(301, "ab", "cde")},
		{"cut none", api.Op{Kind: api.OpCut, At: 3}, with(301, "ab", "cde", "f")},
		{"fill", api.Op{Kind: api.OpFill, Rows: []string{"x", "", "yz"}}, with(301, "ab", "cde", "f", "x", "", "yz")},
		{"fill none", api.Op{Kind: api.OpFill}, with(301, "ab", "cde", "f")},
		{"next", api.Op{Kind: api.OpNext, Next: 1024}, other},
		{"no next", api.Op{Kind: api.OpNext}, none},
		{"patch ahead", api.Op{Kind: api.OpPatch, At: 1, Text: "x"}, with(301, "ab", "xde", "f")},
		{"patch between", api.Op{Kind: api.OpPatch, At: 1, Off: 1, Text: "x"}, with(301, "ab", "cxe", "f")},
		{"patch the end", api.Op{Kind: api.OpPatch, At: 1, Off: 1, Text: "xy"}, with(301, "ab", "cxy", "f")},
		{"patch all", api.Op{Kind: api.OpPatch, At: 2, Text: "x"}, with(301, "ab", "cde", "x")},
		{"patch nothing", api.Op{Kind: api.OpPatch, At: 1, Off: 2}, with(301, "ab", "cde", "f")},
		{"patch nothing behind the end", api.Op{Kind: api.OpPatch, At: 1, Off: 3}, with(301, "ab", "cde", "f")},
	} {
		c.o.Page = 7
		if got, e := op.Apply(leaf(), c.o, 301); !samePage(got, c.want) || e != api.OK {
			t.Errorf("%s: %v, %v, not %v", c.name, got, e, c.want)
		}
		// The LSN is set, whichever it is, and the op done, whether it was done already or not.
		for _, lsn := range []uint64{0, 1, 299, 300, 301, 1 << 32, 1 << 63, math.MaxUint64} {
			c.want.LSN = lsn
			if got, e := op.Apply(leaf(), c.o, lsn); !samePage(got, c.want) || e != api.OK {
				t.Errorf("%s, at %d: %v, %v", c.name, lsn, got, e)
			}
			if got, e := op.Redo(leaf(), lsn, c.o); e != api.OK || lsn <= 300 && !samePage(got, leaf()) || lsn > 300 && !samePage(got, c.want) {
				t.Errorf("%s, done again at %d: %v, %v", c.name, lsn, got, e)
			}
		}
	}
}

// failed fails, unless the op has that error, and nothing beside it; done again, the page as it was.
func failed(t *testing.T, what string, p api.Page, o api.Op, want api.Errno) {
	t.Helper()
	if q, e := op.Apply(p, o, 301); !samePage(q, api.Page{}) || e != want {
		t.Errorf("%s: Apply: %v, %v, not %v", what, q, e, want)
	}
	if p.Id != o.Page {
		return
	}
	if q, e := op.Redo(p, 301, o); !samePage(q, p) || e != want {
		t.Errorf("%s: Redo: %v, %v, not %v", what, q, e, want)
	}
}

// P11.2: ErrArg, unless the page may be, and is the op's; but of a format, which makes it.
func TestWrongPages(t *testing.T) {
	for what, p := range map[string]api.Page{
		"of another id":      {Kind: 1, Id: 8, LSN: 300, Rows: []string{"ab", "cde"}},
		"of no number":       {Kind: 1, LSN: 300, Rows: []string{"ab", "cde"}},
		"of too great an id": {Kind: 1, Id: 1025, LSN: 300, Rows: []string{"ab", "cde"}},
		"of no kind":         {Kind: 6, Id: 7, LSN: 300, Rows: []string{"ab", "cde"}},
		"of no next":         {Kind: 1, Id: 7, Next: 1025, LSN: 300, Rows: []string{"ab", "cde"}},
		"without room":       {Kind: 1, Id: 7, LSN: 300, Rows: []string{"ab", text(475)}},
		"far too long":       {Kind: 1, Id: 7, LSN: 300, Rows: many(100000, "abc")},
		"nothing":            {LSN: 300},
	} {
		for _, o := range []api.Op{
			{Kind: api.OpPut, Page: 7}, {Kind: api.OpSet, Page: 7}, {Kind: api.OpDrop, Page: 7}, {Kind: api.OpCut, Page: 7},
			{Kind: api.OpFill, Page: 7}, {Kind: api.OpNext, Page: 7}, {Kind: api.OpPatch, Page: 7},
			// ErrArg is told ahead of a place that isn't there.
			{Kind: api.OpPut, Page: 7, At: 488}, {Kind: api.OpSet, Page: 7, At: 488}, {Kind: api.OpDrop, Page: 7, At: 488}, {Kind: api.OpCut, Page: 7, At: 488}, {Kind: api.OpPatch, Page: 7, At: 488},
		} {
			failed(t, what, p, o, api.ErrArg)
		}
		o := api.Op{Kind: api.OpFormat, Page: 7, PKind: 2, Level: 1, Next: 3}
		want := api.Page{Kind: 2, Level: 1, Id: 7, LSN: 301, Next: 3}
		if q, e := op.Apply(p, o, 301); !samePage(q, want) || e != api.OK {
			t.Errorf("%s: formatted: %v, %v", what, q, e)
		}
		if q, e := op.Redo(p, 301, o); p.Id == 7 && !samePage(q, want) || p.Id != 7 && !samePage(q, p) || e != api.OK {
			t.Errorf("%s: formatted again: %v, %v", what, q, e)
		}
	}
}

// P11.2: ErrNone, unless there is the place; it is told ahead of bytes that a row has not, and of room that is wanting.
func TestWrongPlaces(t *testing.T) {
	full := with(300, text(235), text(236), "f")
	for _, p := range []api.Page{leaf(), with(300), with(300, ""), full, with(300, many(121, "")...)} {
		n := len(p.Rows)
		for _, at := range []int{n, n + 1, n + 2, 255, 256, 487, 488} {
			if at > n {
				failed(t, "put", p, api.Op{Kind: api.OpPut, Page: 7, At: at, Text: text(488)}, api.ErrNone)
				failed(t, "put nothing", p, api.Op{Kind: api.OpPut, Page: 7, At: at}, api.ErrNone)
				failed(t, "cut", p, api.Op{Kind: api.OpCut, Page: 7, At: at}, api.ErrNone)
			}
			failed(t, "set", p, api.Op{Kind: api.OpSet, Page: 7, At: at, Text: text(488)}, api.ErrNone)
			failed(t, "set to nothing", p, api.Op{Kind: api.OpSet, Page: 7, At: at}, api.ErrNone)
			failed(t, "drop", p, api.Op{Kind: api.OpDrop, Page: 7, At: at}, api.ErrNone)
			failed(t, "patch", p, api.Op{Kind: api.OpPatch, Page: 7, At: at, Off: 488, Text: text(488)}, api.ErrNone)
			failed(t, "patch nothing", p, api.Op{Kind: api.OpPatch, Page: 7, At: at}, api.ErrNone)
		}
	}
}

// P11.2: of a patch ErrArg, unless the row has all these bytes.
func TestWrongPatches(t *testing.T) {
	for _, c := range []struct {
		at, off, size int
	}{
		{0, 0, 3}, {0, 1, 2}, {0, 2, 1}, {0, 3, 0}, {0, 3, 1}, {1, 0, 4}, {1, 3, 1}, {1, 4, 0}, {1, 488, 0}, {2, 0, 488}, {2, 488, 488}, {2, 255, 1}, {2, 256, 1},
	} {
		failed(t, "patch", leaf(), api.Op{Kind: api.OpPatch, Page: 7, At: c.at, Off: c.off, Text: text(c.size)}, api.ErrArg)
	}
	failed(t, "an empty row", with(300, ""), api.Op{Kind: api.OpPatch, Page: 7, Text: "x"}, api.ErrArg)
}

// P11.2: ErrFull, if the page then has no room; up to its last byte it has.
func TestRoom(t *testing.T) {
	fits := func(what string, p api.Page, o api.Op, rows ...string) {
		t.Helper()
		o.Page = 7
		if q, e := op.Apply(p, o, 301); !samePage(q, with(301, rows...)) || e != api.OK {
			t.Errorf("%s: %v, %v", what, q, e)
		}
	}
	full := func(what string, p api.Page, o api.Op) {
		t.Helper()
		o.Page = 7
		failed(t, what, p, o, api.ErrFull)
	}
	// The rows of a page have 484 bytes, of which each takes 4 and its own.
	p := with(300, "ab", "cde", "f")
	fits("put as long as may be", p, api.Op{Kind: api.OpPut, At: 1, Text: text(462)}, "ab", text(462), "cde", "f")
	full("put a byte more", p, api.Op{Kind: api.OpPut, At: 1, Text: text(463)})
	full("put as long as a text may be", with(300), api.Op{Kind: api.OpPut, Text: text(488)})
	full("put one as long as what all have", with(300), api.Op{Kind: api.OpPut, Text: text(481)})
	fits("put the longest row", with(300), api.Op{Kind: api.OpPut, Text: text(480)}, text(480))
	fits("set as long as may be", p, api.Op{Kind: api.OpSet, At: 1, Text: text(469)}, "ab", text(469), "f")
	full("set a byte more", p, api.Op{Kind: api.OpSet, At: 1, Text: text(470)})
	fits("fill as long as may be", p, api.Op{Kind: api.OpFill, Rows: []string{"", text(454), ""}}, "ab", "cde", "f", "", text(454), "")
	full("fill a byte more", p, api.Op{Kind: api.OpFill, Rows: []string{"", text(455), ""}})
	fits("fill with as many as may be", with(300, "f"), api.Op{Kind: api.OpFill, Rows: many(119, "")}, append([]string{"f"}, many(119, "")...)...)
	full("fill with one more", with(300, "f"), api.Op{Kind: api.OpFill, Rows: many(120, "")})
	full("fill with as many as an op may have", with(300), api.Op{Kind: api.OpFill, Rows: many(488, "")})
	room := with(300, text(476))
	fits("an empty row into the last four bytes", room, api.Op{Kind: api.OpPut, At: 1}, text(476), "")
	less := with(300, text(477))
	full("an empty row into three bytes", less, api.Op{Kind: api.OpPut, At: 1})
	fits("no row into a full page", less, api.Op{Kind: api.OpFill}, text(477))
	fits("a shorter row into a full page", less, api.Op{Kind: api.OpSet, Text: "s"}, "s")
	fits("bytes of a row of a full page", less, api.Op{Kind: api.OpPatch, Off: 476, Text: "s"}, text(476)+"s")
}

// P11.3: a page whose LSN is that, or above, is answered as it is, whatever it and the ops are.
func TestRedoDone(t *testing.T) {
	odd := api.Page{Kind: 99, Level: 9, Id: 4000, LSN: 300, Next: 5000, Rows: []string{"a", text(500), ""}}
	for _, p := range []api.Page{leaf(), odd} {
		for _, lsn := range []uint64{0, 1, 299, 300} {
			for _, l := range [][]api.Op{nil, {{Kind: api.OpDrop, Page: p.Id}}, {{Page: p.Id}}, {{Kind: 200, Page: p.Id, At: -1}}, one()} {
				if q, e := op.Redo(p, lsn, l...); !samePage(q, p) || e != api.OK {
					t.Errorf("Redo(%v, %d, %v): %v, %v", p, lsn, l, q, e)
				}
			}
		}
		p.LSN = math.MaxUint64
		if q, e := op.Redo(p, math.MaxUint64, api.Op{Page: p.Id}); !samePage(q, p) || e != api.OK {
			t.Errorf("at the last LSN: %v, %v", q, e)
		}
	}
	if q, e := op.Redo(api.Page{}, 0, api.Op{}); !samePage(q, api.Page{}) || e != api.OK {
		t.Errorf("nothing at LSN 0: %v, %v", q, e)
	}
}

// P11.3: ops of other pages are passed over, also such as may not be; without one of its own a page stays as it is.
func TestRedoOthers(t *testing.T) {
	others := []api.Op{{}, {Kind: 99, Page: 8, At: -1}, {Kind: api.OpDrop, Page: 6, At: 400}, {Kind: api.OpFormat, Page: 8}, {Kind: api.OpPut, Page: 7 + 1<<16, Text: "x"}}
	for _, lsn := range []uint64{301, math.MaxUint64} {
		if q, e := op.Redo(leaf(), lsn); !samePage(q, leaf()) || e != api.OK {
			t.Errorf("no ops: %v, %v", q, e)
		}
		if q, e := op.Redo(leaf(), lsn, others...); !samePage(q, leaf()) || e != api.OK {
			t.Errorf("ops of other pages: %v, %v", q, e)
		}
		l := slices.Insert(slices.Clone(others), 2, api.Op{Kind: api.OpDrop, Page: 7})
		l = append(l, api.Op{Kind: api.OpPut, Page: 7, Text: "x"})
		if q, e := op.Redo(leaf(), lsn, l...); !samePage(q, with(lsn, "x", "cde", "f")) || e != api.OK {
			t.Errorf("two ops among others: %v, %v", q, e)
		}
	}
	odd := api.Page{Kind: 99, Rows: []string{text(600)}}
	if q, e := op.Redo(odd, 1, api.Op{Kind: api.OpDrop, Page: 7}); !samePage(q, odd) || e != api.OK {
		t.Errorf("a page that may not be: %v, %v", q, e)
	}
	if q, e := op.Redo(odd, 1, api.Op{Kind: api.OpFormat}); !samePage(q, odd) || e != api.ErrArg {
		t.Errorf("a page of no number, formatted: %v, %v", q, e)
	}
}

// P11.3: all ops are done, in order, one by one, at one LSN.
func TestRedoInOrder(t *testing.T) {
	l := []api.Op{
		{Kind: api.OpFormat, Page: 7, PKind: api.PageUndo, Level: 2, Next: 9},
		{Kind: api.OpFill, Page: 7, Rows: []string{"a", "b", "c"}},
		{Kind: api.OpPut, Page: 7, At: 1, Text: "d"},
		{Kind: api.OpDrop, Page: 7, At: 0},
		{Kind: api.OpSet, Page: 7, At: 2, Text: "efg"},
		{Kind: api.OpPatch, Page: 7, At: 2, Off: 1, Text: "h"},
		{Kind: api.OpCut, Page: 7, At: 3},
		{Kind: api.OpNext, Page: 7, Next: 5},
		{Kind: api.OpPut, Page: 7, At: 3, Text: "i"},
	}
	want := api.Page{Kind: api.PageUndo, Level: 2, Id: 7, LSN: 301, Next: 5, Rows: []string{"d", "b", "ehg", "i"}}
	if q, e := op.Redo(leaf(), 301, l...); !samePage(q, want) || e != api.OK {
		t.Errorf("%v, %v", q, e)
	}
	// More than a list may have.
	var long []api.Op
	for range 100 {
		long = append(long, api.Op{Kind: api.OpPut, Page: 7, At: 3})
	}
	if q, e := op.Redo(leaf(), 301, long...); len(q.Rows) != 103 || q.LSN != 301 || e != api.OK {
		t.Errorf("100 ops: %d rows, %v", len(q.Rows), e)
	}
}

// P11.3: the first error, beside which the page is answered as it was, whatever was done ahead of it.
func TestRedoErrors(t *testing.T) {
	put := api.Op{Kind: api.OpPut, Page: 7, Text: "x"}
	for what, c := range map[string]struct {
		o api.Op
		e api.Errno
	}{
		"no op":    {api.Op{Page: 7}, api.ErrArg},
		"no bytes": {api.Op{Kind: api.OpPatch, Page: 7, Off: 1, Text: "xy"}, api.ErrArg},
		"no place": {api.Op{Kind: api.OpDrop, Page: 7, At: 9}, api.ErrNone},
		"no room":  {api.Op{Kind: api.OpFill, Page: 7, Rows: many(121, "")}, api.ErrFull},
	} {
		for _, l := range [][]api.Op{
			{c.o}, {put, c.o}, {put, put, c.o, put}, {c.o, put},
			{put, c.o, {Kind: 99, Page: 7}}, {c.o, {Kind: api.OpSet, Page: 7, At: 50}}, {{Page: 8}, put, c.o},
			{{Kind: api.OpFormat, Page: 7, PKind: 2}, put, put, c.o},
		} {
			if q, e := op.Redo(leaf(), 301, l...); !samePage(q, leaf()) || e != c.e {
				t.Errorf("%s: %v: %v, %v, not %v", what, l, q, e, c.e)
			}
		}
	}
	// A page that lacks room between two ops is full, though it would have room again behind the next one.
	l := []api.Op{{Kind: api.OpPut, Page: 7, Text: text(470)}, {Kind: api.OpDrop, Page: 7}}
	if q, e := op.Redo(leaf(), 301, l...); !samePage(q, leaf()) || e != api.ErrFull {
		t.Errorf("no room in between: %v, %v", q, e)
	}
	slices.Reverse(l)
	if q, e := op.Redo(leaf(), 301, l[0], api.Op{Kind: api.OpPut, Page: 7, Text: text(464)}); len(q.Rows) != 3 || e != api.OK {
		t.Errorf("room, once a row is gone: %v, %v", q, e)
	}
}

// P11.4: what was cut off, and filled in elsewhere, is there.
func TestCutAndFill(t *testing.T) {
	rows := []string{"a", "", "bc", "d", text(100)}
	from := api.Page{Kind: 1, Id: 3, LSN: 5, Rows: rows}
	for at := range len(rows) + 1 {
		l := []api.Op{
			{Kind: api.OpFormat, Page: 4, PKind: 1},
			{Kind: api.OpFill, Page: 4, Rows: rows[at:]},
			{Kind: api.OpCut, Page: 3, At: at},
			{Kind: api.OpNext, Page: 3, Next: 4},
		}
		s, e := op.Encode(l...)
		again, f := op.Decode(s)
		if e != api.OK || f != api.OK {
			t.Fatal(e, f)
		}
		left, e := op.Redo(from, 6, again...)
		right, f := op.Redo(api.Page{Kind: 99, Id: 4}, 6, again...)
		if e != api.OK || f != api.OK || !slices.Equal(left.Rows, rows[:at]) || !slices.Equal(right.Rows, rows[at:]) || left.Next != 4 || left.LSN != 6 || right.LSN != 6 {
			t.Errorf("cut at %d: %v, %v, %v, %v", at, left, e, right, f)
		}
		// What was done already is not done twice.
		for _, p := range []api.Page{left, right} {
			if q, e := op.Redo(p, 6, again...); !samePage(q, p) || e != api.OK {
				t.Errorf("done twice: %v, %v", q, e)
			}
		}
	}
}

// inside: whether a text is a piece of another one's memory.
func inside(part, whole string) bool {
	a, b := uintptr(unsafe.Pointer(unsafe.StringData(part))), uintptr(unsafe.Pointer(unsafe.StringData(whole)))
	return len(part) > 0 && a >= b && a < b+uintptr(len(whole))
}

// R5: answers share no memory with arguments, nor with each other; arguments stay as they were.
func TestNewMemory(t *testing.T) {
	s := plainList(one()...)
	l, _ := op.Decode(s)
	again, _ := op.Decode(s)
	for i, o := range l {
		for _, part := range append([]string{o.Text}, o.Rows...) {
			if inside(part, s) {
				t.Errorf("op %d is a piece of what was read", i)
			}
		}
		for k := range o.Rows {
			o.Rows[k] = "changed"
		}
	}
	if !slices.EqualFunc(again, one(), alike) {
		t.Errorf("what was read again is %v", again)
	}

	for _, o := range []api.Op{
		{Kind: api.OpPut, Page: 7, At: 1, Text: "xx"}, {Kind: api.OpSet, Page: 7, At: 1, Text: "xx"}, {Kind: api.OpDrop, Page: 7, At: 1},
		{Kind: api.OpCut, Page: 7, At: 2}, {Kind: api.OpCut, Page: 7, At: 3}, {Kind: api.OpFill, Page: 7, Rows: []string{"xx", "yy"}}, {Kind: api.OpFill, Page: 7},
		{Kind: api.OpNext, Page: 7, Next: 1}, {Kind: api.OpPatch, Page: 7, At: 1, Text: "cde"}, {Kind: api.OpPatch, Page: 7, At: 1, Off: 1},
		{Kind: api.OpPut, Page: 8, Text: "xx"}, {Kind: 99, Page: 7},
	} {
		p := leaf()
		// Room behind the rows, into which nothing is to be written.
		rows := append(make([]string, 0, 20), p.Rows...)
		p.Rows = rows
		was := slices.Clone(o.Rows)
		q, _ := op.Apply(p, o, 301)
		r, _ := op.Redo(p, 301, o)
		d, _ := op.Redo(p, 300, o)
		given := append(append([]string{o.Text}, o.Rows...), p.Rows...)
		answers := []api.Page{q, r, d}
		for i, a := range answers {
			for _, x := range a.Rows {
				for _, y := range given {
					if inside(x, y) {
						t.Errorf("%v: answer %d: %q is what was handed in", o, i, x)
					}
				}
			}
		}
		for n, a := range answers {
			for i := range a.Rows {
				if a.Rows[i] == "changed" {
					t.Errorf("%v: answer %d shares its list with one ahead", o, n)
				}
				a.Rows[i] = "changed"
			}
		}
		if !slices.Equal(p.Rows, leaf().Rows) || !slices.Equal(o.Rows, was) || !slices.Equal(rows[:20][3:], make([]string, 17)) {
			t.Errorf("%v: the page has become %v, the rows behind it %q, the op's %q", o, p, rows[:20], o.Rows)
		}
	}

	o := api.Op{Kind: api.OpFill, Page: 1, Rows: append(make([]string, 0, 4), "a", "b")}
	for range 2 {
		if s, e := op.Encode(o, o); s != plainList(o, o) || e != api.OK {
			t.Errorf("%q, %v", s, e)
		}
	}
	if !op.May(o) || !slices.Equal(o.Rows[:4], []string{"a", "b", "", ""}) {
		t.Errorf("the op's rows have become %q", o.Rows[:4])
	}
}
