package page_test

import (
	"math"
	"reflect"
	"strings"
	"testing"
	"unsafe"

	"pentimento/api"
	"pentimento/page"
)

// alike: whether both are the same, as the library says; a list of no rows is none.
func alike(a, b api.Page) bool {
	for _, p := range []*api.Page{&a, &b} {
		if len(p.Rows) == 0 {
			p.Rows = nil
		}
	}
	return reflect.DeepEqual(a, b)
}

// encoded is a page's bytes.
func encoded(t *testing.T, p api.Page) string {
	t.Helper()
	s, e := page.Encode(p)
	if len(s) != 512 || e != api.OK {
		t.Fatalf("Encode(%v): %d bytes, %v", p, len(s), e)
	}
	return s
}

// none fails, unless s is no page's bytes.
func none(t *testing.T, what, s string) {
	t.Helper()
	if p, e := page.Decode(s); e != api.ErrPage || !alike(p, api.Page{}) {
		t.Errorf("%s: %v, %v", what, p, e)
	}
}

// many is one text so often.
func many(n int, text string) []string {
	l := make([]string, n)
	for i := range l {
		l[i] = text
	}
	return l
}

// texts is n rows of so many bytes each.
func texts(n, size int) []string { return many(n, strings.Repeat("r", size)) }

// with is a list of rows, and further ones behind it.
func with(l []string, more ...string) []string {
	return append(l[:len(l):len(l)], more...)
}

// leaf is a page with something in each part.
func leaf() api.Page {
	return api.Page{Kind: api.PageLeaf, Level: 2, Id: 0x0304, LSN: 0x060708090A0B0C0D, Next: 0x03F0, Rows: []string{"ab", "", "cde"}}
}

// rising is 512 bytes, of which those of a sector all have the same: first, and one more a sector.
func rising(first byte) string {
	var s string
	for i := range byte(4) {
		s += strings.Repeat(string([]byte{first + i}), 128)
	}
	return s
}

// P6.1: each of the kinds, ids from 1 to 1024, a next page up to 1024, any level and LSN; all else has ErrArg, and no bytes.
func TestMay(t *testing.T) {
	type change func(p *api.Page, n uint64)
	kind := func(p *api.Page, n uint64) { p.Kind = uint8(n) }
	level := func(p *api.Page, n uint64) { p.Level = uint8(n) }
	id := func(p *api.Page, n uint64) { p.Id = uint32(n) }
	lsn := func(p *api.Page, n uint64) { p.LSN = n }
	next := func(p *api.Page, n uint64) { p.Next = uint32(n) }
	for _, c := range []struct {
		name string
		to   change
		n    []uint64
		may  bool
	}{
		{"kind", kind, []uint64{0, 1, 2, 3, 4, 5}, true},
		{"kind", kind, []uint64{6, 7, 128, 255}, false},
		{"level", level, []uint64{0, 1, 7, 8, 9, 255}, true},
		{"id", id, []uint64{1, 2, 255, 256, 1023, 1024}, true},
		{"id", id, []uint64{0, 1025, 65536, 65537, math.MaxInt32, 1 << 31, math.MaxUint32}, false},
		{"LSN", lsn, []uint64{0, 1, 1 << 32, 1 << 63, math.MaxUint64}, true},
		{"next", next, []uint64{0, 1, 772, 1023, 1024}, true},
		{"next", next, []uint64{1025, 65536, 65537, math.MaxInt32, 1 << 31, math.MaxUint32}, false},
	} {
		for _, n := range c.n {
			p := leaf()
			c.to(&p, n)
			if page.May(p) != c.may {
				t.Errorf("%s %d: %v", c.name, n, page.May(p))
			}
			s, e := page.Encode(p)
			if c.may && (s != plainBytes(p) || e != api.OK) || !c.may && (s != "" || e != api.ErrArg) {
				t.Errorf("%s %d: Encode: %q, %v", c.name, n, s, e)
			}
			if q, e := page.Decode(plainBytes(p)); c.may && (e != api.OK || !alike(q, p)) {
				t.Errorf("%s %d: Decode: %v, %v", c.name, n, q, e)
			}
			if !c.may {
				none(t, c.name, plainBytes(p))
			}
		}
	}
	if page.May(api.Page{}) {
		t.Error("a page of no number may be")
	}
}

// P6.1: rows have room up to the area's last byte; room tells how many bytes a further one may have, -1 if none may come.
func TestRoom(t *testing.T) {
	long := strings.Repeat("l", 1<<20)
	for _, c := range []struct {
		name string
		rows []string
		may  bool
		room int
	}{
		{"none", nil, true, 480},
		{"none, as a list", []string{}, true, 480},
		{"an empty one", texts(1, 0), true, 476},
		{"one of a byte", texts(1, 1), true, 475},
		{"three", []string{"ab", "", "cde"}, true, 463},
		{"one that leaves an empty one", texts(1, 476), true, 0},
		{"one that leaves three bytes", texts(1, 477), true, -1},
		{"one that leaves a byte", texts(1, 479), true, -1},
		{"the longest one", texts(1, 480), true, -1},
		{"one byte more", texts(1, 481), false, -1},
		{"one that is too long without its place", texts(1, 485), false, -1},
		{"one as long as the area", texts(1, 488), false, -1},
		{"two that fill it", texts(2, 238), true, -1},
		{"two, one byte more", with(texts(1, 238), texts(1, 239)...), false, -1},
		{"empty ones, and room for one more", texts(120, 0), true, 0},
		{"empty ones, as many as may be", texts(121, 0), true, -1},
		{"empty ones, one more", texts(122, 0), false, -1},
		{"empty ones, and the last one full", with(texts(119, 0), "four"), true, -1},
		{"empty ones, and the last one nearly full", with(texts(118, 0), "four"), true, 0},
		{"empty ones, and the last one has one byte more", with(texts(120, 0), "a"), false, -1},
		{"empty ones behind a long one", with(texts(1, 476), ""), true, -1},
		{"one that is far too long", []string{long}, false, -1},
		{"too long ones, and empty ones", with([]string{long, "", long}, texts(9, 0)...), false, -1},
		{"many that are far too long", many(1<<13, long), false, -1},
		{"many empty ones", many(1<<20, ""), false, -1},
	} {
		p := api.Page{Kind: api.PageUndo, Id: 1, Rows: c.rows}
		if page.May(p) != c.may || page.Room(p) != c.room {
			t.Errorf("%s: may be: %v, room %d, not %v, %d", c.name, page.May(p), page.Room(p), c.may, c.room)
		}
		if s, e := page.Encode(p); c.may && (s != plainBytes(p) || e != api.OK) || !c.may && (s != "" || e != api.ErrArg) {
			t.Errorf("%s: Encode: %q, %v", c.name, s, e)
		}
		// Room is the rows' alone, also where the page may not be for another reason.
		p.Kind, p.Id = 77, 0
		if page.Room(p) != c.room || page.May(p) {
			t.Errorf("%s: room %d of a page that may not be", c.name, page.Room(p))
		}
	}
	if n := page.Room(api.Page{}); n != 480 {
		t.Errorf("room %d of a page of no number", n)
	}
}

// P6.1: what a page's bytes are, written out.
func TestEncode(t *testing.T) {
	for _, c := range []struct {
		name string
		p    api.Page
		want string
	}{
		{
			"a free page without rows",
			api.Page{Id: 1},
			"\x00\x00\x00\x00\x00\x01" + zeros(8) + zeros(4) + zeros(2) + "\x00\x00\x01\xe8" + zeros(484),
		},
		{
			"a page with something in each part",
			leaf(),
			"\x01\x02\x00\x00\x03\x04\x06\x07\x08\x09\x0a\x0b\x0c\x0d\x00\x00\x03\xf0\x00\x00" +
				"\x00\x03\x01\xe3\x01\xe6\x00\x02\x01\xe6\x00\x00\x01\xe3\x00\x03" + zeros(467) + "cdeab",
		},
		{
			"a full page",
			api.Page{Kind: api.PageMeta, Level: 255, Id: 1024, LSN: math.MaxUint64, Next: 1024, Rows: texts(1, 480)},
			"\x05\xff\x00\x00\x04\x00\xff\xff\xff\xff\xff\xff\xff\xff\x00\x00\x04\x00\x00\x00" +
				"\x00\x01\x00\x08\x00\x08\x01\xe0" + strings.Repeat("r", 480),
		},
	} {
		got := encoded(t, c.p)
		if got[:508] != c.want {
			t.Errorf("%s: %q, not %q", c.name, got[:508], c.want)
		}
		if got != sealed(c.want) {
			t.Errorf("%s: the sum is %q, not %q", c.name, got[508:], sealed(c.want)[508:])
		}
		if p, e := page.Decode(sealed(c.want)); e != api.OK || !alike(p, c.p) {
			t.Errorf("%s: read as %v, %v", c.name, p, e)
		}
	}
}

// P6.1: a sum that was worked out elsewhere, so that none hangs on the tests' own means alone.
func TestSum(t *testing.T) {
	c := ^uint32(0)
	s := encoded(t, leaf())
	for i := range 508 {
		c ^= uint32(s[i])
		for range 8 {
			odd := c & 1
			c >>= 1
			if odd == 1 {
				c ^= 0x82F63B78
			}
		}
	}
	c = ^c
	if want := string([]byte{byte(c), byte(c >> 8), byte(c >> 16), byte(c >> 24)}); s[508:] != want {
		t.Errorf("%q, not %q", s[508:], want)
	}
}

// P6.1: both are the same just if each part is, and each row at its place; a list without rows is none; pages that may not be, too.
func TestSame(t *testing.T) {
	full := func(l ...string) api.Page {
		p := leaf()
		p.Rows = l
		return p
	}
	l := []api.Page{
		{},
		{Kind: 1}, {Kind: 255}, {Level: 1}, {Level: 255},
		{Id: 1}, {Id: 257}, {Id: 1 << 31},
		{LSN: 1}, {LSN: 1 << 8}, {LSN: 1 << 32}, {LSN: 1 << 63},
		{Next: 1}, {Next: 257}, {Next: 1 << 31},
		{Rows: []string{""}}, {Rows: []string{"", ""}}, {Rows: []string{"\x00"}}, {Rows: []string{"a"}},
		full(), full("ab"), full("ab", ""), full("", "ab"), full("ab", "", "cde"), full("ab", "cde", ""), full("ab", "cde"), full("abcde"), full("ab", "", "cdf"), full("ab", "", "cde", ""),
		full(texts(200, 9)...), full(with(texts(199, 9), "rrrrrrrrs")...),
	}
	for i, a := range l {
		for k, b := range l {
			b.Rows = append([]string{}, b.Rows...)
			if page.Same(a, b) != (i == k) || page.Same(b, a) != (i == k) {
				t.Errorf("Same(%v, %v): %v, %v", a, b, page.Same(a, b), page.Same(b, a))
			}
		}
	}
	if p := leaf(); !page.Same(p, p) {
		t.Error("a page isn't the same as itself")
	}
}

// P6.2, P6.4: what was written is read as itself.
func TestDecode(t *testing.T) {
	for _, rows := range [][]string{nil, {}, {""}, {"", ""}, {"a"}, {"a", "b"}, {"b", "a"}, {"same", "same"}, {"\x00", "\x00\x00"}, texts(1, 480), texts(2, 238), texts(121, 0), texts(96, 1)} {
		for kind := range uint8(6) {
			p := api.Page{Kind: kind, Level: 1, Id: 1000, LSN: 12345678901234567, Next: 7, Rows: rows}
			q, e := page.Decode(encoded(t, p))
			if e != api.OK || !alike(p, q) || !page.Same(p, q) {
				t.Errorf("%v: %v, %v", p, q, e)
			}
		}
	}
}

// P6.2: bytes of another length, not sealed, or sealed, and nothing else, are no page.
func TestDecodeNone(t *testing.T) {
	s := encoded(t, leaf())
	none(t, "nothing", "")
	for _, n := range []int{1, 3, 4, 20, 128, 488, 507, 508, 509, 511} {
		none(t, "cut", s[:n])
		none(t, "its end", s[512-n:])
	}
	none(t, "a byte more", s+"\x00")
	none(t, "a byte ahead", "\x00"+s)
	none(t, "twice", s+s)
	none(t, "a sector more", s+zeros(128))
	none(t, "far too long", zeros(1<<20))
	none(t, "bytes 0", zeros(512))
	none(t, "bytes 255", strings.Repeat("\xff", 512))
	none(t, "bytes 0, sealed", sealed(zeros(508)))
	none(t, "bytes 255, sealed", sealed(strings.Repeat("\xff", 508)))
	none(t, "no sum", s[:508]+zeros(4))
	none(t, "its sum turned about", s[:508]+string([]byte{s[511], s[510], s[509], s[508]}))
	none(t, "its sum ahead", s[508:]+s[:508])
	none(t, "sealed twice, and cut", sealed(s)[4:])
	for _, n := range []int{0, 1, 4, 487, 507, 509, 512, 1020} {
		none(t, "sealed, of another length", sealed(zeros(n)))
		none(t, "sealed, of another length", sealed((s + s)[:n]))
	}
}

// P6.2: bytes that are sealed, and whose head is no page's.
func TestDecodeHead(t *testing.T) {
	s := encoded(t, leaf())
	for at := 18; at < 20; at++ {
		for _, c := range []string{"\x01", "\x80", "\xff"} {
			none(t, "other spare bytes", sealed(s[:at]+c+s[at+1:508]))
		}
	}
	for at, c := range map[int]string{0: "\x06", 2: "\x01", 3: "\x01", 4: "\x04", 14: "\x80", 15: "\x01", 16: "\x04"} {
		none(t, "no kind, id or next", sealed(s[:at]+c+s[at+1:508]))
	}
	none(t, "the id 0", sealed(s[:2]+zeros(4)+s[6:508]))
}

// P6.2: bytes that are sealed, and whose area is none into which rows were put, one behind the other: that is but one for the same rows.
func TestDecodeArea(t *testing.T) {
	head := encoded(t, leaf())[:20]
	n := func(l ...int) string {
		var s string
		for _, i := range l {
			s += number(uint64(i), 2)
		}
		return s
	}
	fill := func(dir, texts string) string { return dir + zeros(488-len(dir)-len(texts)) + texts }
	for _, c := range []struct {
		name, area string
		is         bool
	}{
		{"no row", fill(n(0, 488), ""), true},
		{"no row, and a lower low place", fill(n(0, 487), ""), false},
		{"no row, and the lowest place", fill(n(0, 4), ""), false},
		{"no row, and a low place in the head", fill(n(0, 3), ""), false},
		{"no row, and a low place beyond", fill(n(0, 489), ""), false},
		{"no row, and no low place", fill(n(0, 0), ""), false},
		{"no row, and a byte of the gap", fill(n(0, 488), "\x01"), false},
		{"no row, and a directory", fill(n(0, 488, 488, 0), ""), false},
		{"rows", fill(n(2, 485, 486, 2, 485, 1), "cab"), true},
		{"rows in another order", fill(n(2, 485, 485, 2, 487, 1), "abc"), false},
		{"a lower low place", fill(n(2, 484, 486, 2, 485, 1), "\x00cab"), false},
		{"a hole at the end", fill(n(2, 484, 485, 2, 484, 1), "cab\x00"), false},
		{"a hole of bytes between", fill(n(2, 484, 486, 2, 484, 1), "chab"), false},
		{"bytes in the gap", fill(n(2, 485, 486, 2, 485, 1), "gcab"), false},
		{"bytes behind the directory", fill(n(2, 485, 486, 2, 485, 1)+"\x01", "cab"), false},
		{"a row ahead of the low place", fill(n(2, 486, 486, 2, 485, 1), "cab"), false},
		{"a row beyond the area", fill(n(1, 486, 486, 3), "ab"), false},
		{"rows over each other", fill(n(2, 486, 486, 2, 487, 1), "ab"), false},
		{"rows at one place", fill(n(2, 487, 487, 1, 487, 1), "a"), false},
		{"an empty row", fill(n(1, 488, 488, 0), ""), true},
		{"an empty row elsewhere", fill(n(1, 487, 487, 0), ""), false},
		{"an empty row behind", fill(n(2, 487, 487, 1, 487, 0), "a"), true},
		{"an empty row behind, at the end", fill(n(2, 487, 487, 1, 488, 0), "a"), false},
		{"an empty row ahead", fill(n(2, 487, 488, 0, 487, 1), "a"), true},
		{"as many rows as may be", fill(n(121, 488)+strings.Repeat(n(488, 0), 121), ""), true},
		{"as many rows as may be, the low place elsewhere", fill(n(121, 487)+strings.Repeat(n(488, 0), 121), ""), false},
		{"more rows than may be", n(122, 488) + strings.Repeat(n(488, 0), 121), false},
		{"more rows than may be, by far", strings.Repeat("\xff", 488), false},
		{"a full area", n(1, 8, 8, 480) + strings.Repeat("f", 480), true},
	} {
		if len(c.area) != 488 {
			t.Fatalf("%s: %d bytes", c.name, len(c.area))
		}
		s := sealed(head + c.area)
		if sameForm(t, s) != c.is {
			t.Errorf("%s: a page: %v", c.name, !c.is)
		}
	}
}

// turn: s with the bits turned that are in bits, the lowest one at the place from, counted from each byte's lowest bit on.
func turn(s string, from int, bits uint32) string {
	b := []byte(s)
	for i := range 32 {
		if bits>>i&1 == 1 {
			at := from + i
			b[at/8] ^= 1 << (at % 8)
		}
	}
	return string(b)
}

// P6.4: bits that are turned within 32 in a row, wherever, make it no page.
func TestTurnedBits(t *testing.T) {
	bursts := []uint32{1, 3, 0xFFFFFFFF, 0x80000001, 0x82F63B79, 0x05EC76F1, 0xAAAAAAAB, 0x55555555, 0x01010101, 0xFF}
	for _, p := range []api.Page{{Id: 1}, leaf(), {Kind: 5, Id: 1024, Rows: texts(12, 36)}} {
		s := encoded(t, p)
		for from := range 8 * 512 {
			for _, bits := range bursts {
				if left := 8*512 - from; left < 32 && bits>>left != 0 {
					continue
				}
				if q, e := page.Decode(turn(s, from, bits)); e != api.ErrPage || !alike(q, api.Page{}) {
					t.Fatalf("%v, bits %#x turned from %d on: %v, %v", p, bits, from, q, e)
				}
			}
		}
	}
}

// P6.3: the i-th sector is now's, if the i-th of keep is true; old's, if it is false, or there is none.
func TestTorn(t *testing.T) {
	old, now := rising('a'), rising('A')
	for n := range 7 {
		for bits := range 1 << n {
			var keep []bool
			var want string
			for i := range n {
				keep = append(keep, bits>>i&1 == 1)
			}
			for i := range 4 {
				from := old
				if i < n && keep[i] {
					from = now
				}
				want += from[128*i : 128*i+128]
			}
			was := append([]bool{}, keep...)
			if s, e := page.Torn(old, now, keep...); s != want || e != api.OK {
				t.Errorf("%v: %q, %v", keep, s, e)
			}
			if n > 0 && !reflect.DeepEqual(keep, was) {
				t.Errorf("%v has become %v", was, keep)
			}
		}
	}
	if s, e := page.Torn(old, now, make([]bool, 1000)...); s != old || e != api.OK {
		t.Errorf("many sectors of old: %q, %v", s, e)
	}
}

// P6.3: ErrArg, unless both have 512 bytes.
func TestTornOfOtherLengths(t *testing.T) {
	whole := rising('w')
	for _, n := range []int{0, 1, 127, 128, 384, 508, 511, 513, 640, 1024, 1 << 16} {
		other := strings.Repeat("o", n)
		for _, keep := range [][]bool{nil, {true}, {true, true, true, true}, {false, false, false, false}, make([]bool, 9)} {
			for _, l := range [][2]string{{other, whole}, {whole, other}, {other, other}} {
				if s, e := page.Torn(l[0], l[1], keep...); s != "" || e != api.ErrArg {
					t.Errorf("of %d and %d bytes: %q, %v", len(l[0]), len(l[1]), s, e)
				}
			}
		}
	}
}

// P6.4: torn between a page and itself it is that; between two, in which all sectors differ, it is one of both, or none.
func TestTornPages(t *testing.T) {
	a := api.Page{Kind: 1, Id: 9, LSN: 100, Rows: texts(12, 36)}
	b := api.Page{Kind: 1, Id: 9, LSN: 101, Rows: many(11, strings.Repeat("s", 39))}
	old, now := encoded(t, a), encoded(t, b)
	for i := 0; i < 512; i += 128 {
		if old[i:i+128] == now[i:i+128] {
			t.Fatalf("both have the same sector from %d on", i)
		}
	}
	for bits := range 16 {
		keep := []bool{bits&1 > 0, bits&2 > 0, bits&4 > 0, bits&8 > 0}
		if s, e := page.Torn(old, old, keep...); s != old || e != api.OK {
			t.Errorf("%v, of itself: %q, %v", keep, s, e)
		}
		s, _ := page.Torn(old, now, keep...)
		switch bits {
		case 0, 15:
			want := []api.Page{a, b}[bits/15]
			if p, e := page.Decode(s); e != api.OK || !alike(p, want) {
				t.Errorf("%v: %v, %v", keep, p, e)
			}
		default:
			none(t, "torn", s)
		}
	}
}

// R5: answers share no memory with arguments, nor with each other; arguments stay as they were.
func TestNewMemory(t *testing.T) {
	p := leaf()
	s := encoded(t, p)
	if !alike(p, leaf()) {
		t.Errorf("the page that was written is %v", p)
	}
	inside := func(part, whole string) bool {
		a, b := uintptr(unsafe.Pointer(unsafe.StringData(part))), uintptr(unsafe.Pointer(unsafe.StringData(whole)))
		return len(part) > 0 && a >= b && a < b+uintptr(len(whole))
	}
	q, _ := page.Decode(s)
	again, _ := page.Decode(s)
	for i := range q.Rows {
		if inside(q.Rows[i], s) {
			t.Errorf("row %d is a piece of what was read", i)
		}
		q.Rows[i] = "changed"
	}
	if !alike(again, leaf()) {
		t.Errorf("what was read again is %v", again)
	}
	old, now := rising('o'), rising('O')
	for _, keep := range [][]bool{nil, {true, true, true, true}, {true}} {
		if torn, _ := page.Torn(old, now, keep...); inside(torn, old) || inside(torn, now) {
			t.Errorf("%v: it is what was handed in", keep)
		}
	}
}
