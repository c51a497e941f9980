package rec_test

import (
	"math"
	"strings"
	"testing"
	"unsafe"

	"pentimento/api"
	"pentimento/rec"
)

// kinds is a record of each kind, with something in each part that it has.
func kinds() []api.Rec {
	return []api.Rec{
		{Kind: api.RecBegin, Tx: 5, Prev: 6},
		{Kind: api.RecOp, Tx: 5, Prev: 6, Roll: api.Roll{Page: 7, Slot: 8}, Body: "body"},
		{Kind: api.RecClr, Tx: 5, Prev: 6, Next: 9, Body: "body"},
		{Kind: api.RecCommit, Tx: 5, Prev: 6, Number: 9, Body: "body"},
		{Kind: api.RecEnd, Tx: 5, Prev: 6},
		{Kind: api.RecNest, Tx: 5, Prev: 6, Body: "body"},
		{Kind: api.RecCheckBegin},
		{Kind: api.RecCheckEnd, Tables: tables()},
	}
}

// tables is tables with something in each part.
func tables() api.Tables {
	return api.Tables{
		Dirty:  []api.Dirty{{Page: 1, From: 20}, {Page: 3, From: 10}},
		Txns:   []api.Active{{Tx: 2, First: 30, Last: 50, Next: 40}, {Tx: 4, First: 60, Last: 60}},
		Tx:     5,
		Number: 3,
	}
}

// parts is what some record has, each in turn, as a change that puts it there.
func parts() []func(r *api.Rec) {
	return []func(r *api.Rec){
		func(r *api.Rec) { r.Roll.Page = 1 },
		func(r *api.Rec) { r.Roll.Slot = 1 },
		func(r *api.Rec) { r.Next = 1 },
		func(r *api.Rec) { r.Number = 1 },
		func(r *api.Rec) { r.Body = "\x00" },
		func(r *api.Rec) { r.Tables.Tx = 1 },
		func(r *api.Rec) { r.Tables.Number = 1 },
		func(r *api.Rec) { r.Tables.Dirty = []api.Dirty{{Page: 1, From: 1}} },
		func(r *api.Rec) { r.Tables.Txns = []api.Active{{Tx: 1, First: 1, Last: 1}} },
	}
}

// text is n bytes, none of which is 0.
func text(n int) string { return strings.Repeat("t", n) }

// none fails, unless s is no record's bytes.
func none(t *testing.T, what, s string) {
	t.Helper()
	if r, e := rec.Decode(s); e != api.ErrForm || !zero(r) {
		t.Errorf("%s: %+v, %v", what, r, e)
	}
}

// allowed fails, unless a record may be just if it should, by the chapter's words too, and is written and read accordingly.
func allowed(t *testing.T, what string, r api.Rec, may bool) {
	t.Helper()
	if asIs(t, what, r) != may {
		t.Errorf("%s: %+v: may be: %v, not %v", what, r, !may, may)
	}
	if !may {
		if q, e := rec.Decode(plainBytes(r)); e == api.OK && rec.Same(q, r) {
			t.Errorf("%s: %+v is read, though it may not be", what, r)
		}
	}
}

// P9.1: a record of each kind, with all that its kind has, and with as little as may be.
func TestEachKind(t *testing.T) {
	for _, r := range kinds() {
		allowed(t, "all of it", r, true)
	}
	for _, r := range []api.Rec{
		{Kind: api.RecBegin, Tx: 1},
		{Kind: api.RecOp, Tx: 1, Body: "b"},
		{Kind: api.RecClr, Tx: 1, Body: "b"},
		{Kind: api.RecCommit, Tx: 1, Number: 1, Body: "b"},
		{Kind: api.RecEnd, Tx: 1},
		{Kind: api.RecNest, Body: "b"},
		{Kind: api.RecNest, Tx: 1, Body: "b"},
		{Kind: api.RecCheckBegin},
		{Kind: api.RecCheckEnd, Tables: api.Tables{Tx: 1, Number: 1}},
	} {
		allowed(t, "the least of it", r, true)
		r.Tables.Dirty, r.Tables.Txns = []api.Dirty{}, []api.Active{}
		allowed(t, "lists without elements", r, true)
	}
	allowed(t, "nothing", api.Rec{}, false)
}

// P9.1: each kind that there is, and each that there is not, with each choice of parts, whoever's it is.
func TestChoices(t *testing.T) {
	may := 0
	for kind := range 256 {
		for whose := range 4 {
			for chosen := range 1 << len(parts()) {
				r := api.Rec{Kind: uint8(kind), Tx: uint64(whose & 1), Prev: uint64(whose >> 1)}
				for i, put := range parts() {
					if chosen>>i&1 == 1 {
						put(&r)
					}
				}
				if rec.May(r) != plainMay(r) {
					t.Fatalf("%+v: may be: %v", r, rec.May(r))
				}
				if rec.May(r) {
					may++
				}
			}
		}
	}
	// Begin and end 2 each (Prev), op 6, clr 4, commit 2, nest 3, the begin of a checkpoint 1, its end 4.
	if may != 24 {
		t.Errorf("%d may be", may)
	}
}

// P9.1: what a kind has not is zero.
func TestNoMore(t *testing.T) {
	for _, r := range kinds() {
		for i, put := range parts() {
			with := r
			put(&with)
			has := map[uint8]string{api.RecOp: "014", api.RecClr: "24", api.RecCommit: "34", api.RecNest: "4", api.RecCheckEnd: "5678"}
			allowed(t, "a part", with, strings.Contains(has[r.Kind], string(rune('0'+i))))
		}
	}
}

// P9.1: a kind is from 1 to 8.
func TestNoKind(t *testing.T) {
	for _, r := range kinds() {
		for kind := range 256 {
			if kind < 1 || kind > 8 {
				r.Kind = uint8(kind)
				allowed(t, "no kind", r, false)
				none(t, "no kind", plainBytes(r))
			}
		}
	}
	for kind := range 256 {
		r := api.Rec{Kind: uint8(kind), Tx: 1}
		allowed(t, "a kind alone", r, kind == 1 || kind == 5)
		r.Tx = 0
		allowed(t, "a kind alone, nobody's", r, kind == 7)
		r.Body = "b"
		allowed(t, "a kind and a body, nobody's", r, kind == 6)
		r.Tx = 1
		allowed(t, "a kind and a body", r, kind == 2 || kind == 3 || kind == 6)
	}
}

// P9.1: whose it is, and which one is ahead.
func TestWhose(t *testing.T) {
	for _, r := range kinds() {
		for _, tx := range []uint64{0, 1, 2, 255, 256, 1 << 32, 1 << 63, math.MaxUint64} {
			for _, prev := range []uint64{0, 1, 2, 255, 256, 1 << 32, 1 << 63, math.MaxUint64} {
				r.Tx, r.Prev = tx, prev
				may := tx > 0
				switch r.Kind {
				case api.RecCheckBegin, api.RecCheckEnd:
					may = tx == 0 && prev == 0
				case api.RecNest:
					may = tx > 0 || prev == 0
				}
				allowed(t, "whose", r, may)
			}
		}
	}
}

// P9.1: a body has 1 to 3072 bytes, where there is one, and none elsewhere.
func TestBody(t *testing.T) {
	for _, r := range kinds() {
		has := r.Kind == api.RecOp || r.Kind == api.RecClr || r.Kind == api.RecCommit || r.Kind == api.RecNest
		for _, n := range []int{0, 1, 2, 255, 256, 257, 3071, 3072, 3073, 3074, 4079, 4096, 1 << 16, 1<<16 + 1, 1 << 20} {
			for _, c := range []string{"\x00", "b", "\xff"} {
				r.Body = strings.Repeat(c, n)
				allowed(t, "a body", r, has && n >= 1 && n <= 3072 || !has && n == 0)
			}
		}
	}
}

// P9.1: the numbers that a kind has besides.
func TestNumbers(t *testing.T) {
	all := []uint64{0, 1, 2, 255, 256, 1 << 31, 1 << 32, 1<<32 + 1, 1 << 63, math.MaxUint64}
	for _, n := range all {
		allowed(t, "a commit's number", api.Rec{Kind: api.RecCommit, Tx: 1, Number: n, Body: "b"}, n > 0)
		allowed(t, "what is undone next", api.Rec{Kind: api.RecClr, Tx: 1, Next: n, Body: "b"}, true)
		allowed(t, "the next transaction", api.Rec{Kind: api.RecCheckEnd, Tables: api.Tables{Tx: n, Number: 1}}, n > 0)
		allowed(t, "the next number", api.Rec{Kind: api.RecCheckEnd, Tables: api.Tables{Tx: 1, Number: n}}, n > 0)
		for _, slot := range []uint16{0, 1, 255, 256, 1 << 15, math.MaxUint16} {
			at := api.Roll{Page: uint32(n), Slot: slot}
			allowed(t, "a roll", api.Rec{Kind: api.RecOp, Tx: 1, Roll: at, Body: "b"}, uint32(n) > 0 || slot == 0)
		}
	}
	for _, p := range []uint32{1023, 1024, 1025, math.MaxUint32} {
		allowed(t, "a roll to a page far out", api.Rec{Kind: api.RecOp, Tx: 1, Roll: api.Roll{Page: p, Slot: 1}, Body: "b"}, true)
	}
}

// many is a checkpoint's end with so many pages and transactions.
func many(pages, txns int) api.Rec {
	r := api.Rec{Kind: api.RecCheckEnd, Tables: api.Tables{Tx: 1, Number: 1}}
	for i := range pages {
		r.Tables.Dirty = append(r.Tables.Dirty, api.Dirty{Page: uint32(i + 1), From: uint64(pages - i)})
	}
	for i := range txns {
		r.Tables.Txns = append(r.Tables.Txns, api.Active{Tx: uint64(i + 1), First: uint64(txns - i), Last: uint64(txns - i), Next: uint64(i)})
	}
	return r
}

// P9.1: a table has at most 64 rows, none at least.
func TestTableSizes(t *testing.T) {
	sizes := []int{0, 1, 2, 3, 63, 64, 65, 66, 127, 128, 255, 256, 257, 320, 1000}
	for _, n := range sizes {
		for _, m := range sizes {
			r := many(n, m)
			allowed(t, "tables", r, n <= 64 && m <= 64)
			none(t, "a table's row less", plainBytes(r)[:len(plainBytes(r))-1])
			if n > 64 && n < 256 || m > 64 && m < 256 {
				none(t, "a table that is too long", plainBytes(r))
			}
		}
	}
	if s, _ := rec.Encode(many(64, 64)); len(s) != 17+16+1+64*12+1+64*32 {
		t.Errorf("the longest tables: %d bytes", len(s))
	}
}

// P9.1: pages rise, from 1 on, and each has something that may not be on the disk.
func TestDirty(t *testing.T) {
	const top = math.MaxUint32
	for _, c := range []struct {
		pages []uint32
		may   bool
	}{
		{[]uint32{0}, false}, {[]uint32{1}, true}, {[]uint32{1024}, true}, {[]uint32{1025}, true}, {[]uint32{top}, true},
		{[]uint32{0, 1}, false}, {[]uint32{1, 1}, false}, {[]uint32{1, 2}, true}, {[]uint32{2, 1}, false}, {[]uint32{1, 3}, true},
		{[]uint32{255, 256}, true}, {[]uint32{256, 255}, false}, {[]uint32{top - 1, top}, true}, {[]uint32{top, top}, false}, {[]uint32{top, 0}, false}, {[]uint32{top, 1}, false},
		{[]uint32{1, 2, 2}, false}, {[]uint32{1, 2, 1}, false}, {[]uint32{1, 2, 0}, false}, {[]uint32{1, 9, 10}, true}, {[]uint32{1, 9, 8}, false}, {[]uint32{0, 0}, false},
	} {
		for at := range len(c.pages) + 1 {
			for _, from := range []uint64{0, 1, 2, 1 << 32, math.MaxUint64} {
				r := api.Rec{Kind: api.RecCheckEnd, Tables: api.Tables{Tx: 1, Number: 1}}
				for i, p := range c.pages {
					d := api.Dirty{Page: p, From: 7}
					if i == at {
						d.From = from
					}
					r.Tables.Dirty = append(r.Tables.Dirty, d)
				}
				may := c.may && (from > 0 || at == len(c.pages))
				allowed(t, "pages", r, may)
				if !may {
					none(t, "pages", plainBytes(r))
				}
			}
		}
	}
}

// P9.1: transactions rise, from 1 on, and each has a first and a last record, and one that is undone next, or none.
func TestActive(t *testing.T) {
	const top = math.MaxUint64
	for _, c := range []struct {
		txns []uint64
		may  bool
	}{
		{[]uint64{0}, false}, {[]uint64{1}, true}, {[]uint64{1 << 32}, true}, {[]uint64{top}, true},
		{[]uint64{0, 1}, false}, {[]uint64{1, 1}, false}, {[]uint64{1, 2}, true}, {[]uint64{2, 1}, false}, {[]uint64{1, 3}, true},
		{[]uint64{255, 256}, true}, {[]uint64{256, 255}, false}, {[]uint64{1 << 32, 1}, false}, {[]uint64{1, 1 << 32}, true}, {[]uint64{top, top}, false}, {[]uint64{top, 1}, false}, {[]uint64{top - 1, top}, true},
		{[]uint64{1, 2, 2}, false}, {[]uint64{1, 2, 1}, false}, {[]uint64{1, 2, 0}, false}, {[]uint64{1, 9, 10}, true}, {[]uint64{1, 9, 8}, false},
	} {
		for at := range len(c.txns) + 1 {
			for _, lsn := range []uint64{0, 1, 1 << 32, math.MaxUint64} {
				for part := range 3 {
					r := api.Rec{Kind: api.RecCheckEnd, Tables: api.Tables{Tx: 1, Number: 1}}
					for i, tx := range c.txns {
						a := api.Active{Tx: tx, First: 7, Last: 7, Next: 7}
						if i == at {
							*[]*uint64{&a.First, &a.Last, &a.Next}[part] = lsn
						}
						r.Tables.Txns = append(r.Tables.Txns, a)
					}
					may := c.may && (lsn > 0 || part == 2 || at == len(c.txns))
					allowed(t, "transactions", r, may)
					if !may {
						none(t, "transactions", plainBytes(r))
					}
				}
			}
		}
	}
}

// P9.1, P9.2: what a record's bytes are, written out.
func TestBytes(t *testing.T) {
	whose := zeros(7) + "\x05" + zeros(7) + "\x06"
	for _, c := range []struct {
		name string
		r    api.Rec
		want string
	}{
		{"the chapter's example", api.Rec{Kind: api.RecBegin, Tx: 1}, "\x01" + zeros(7) + "\x01" + zeros(8)},
		{"a begin", api.Rec{Kind: api.RecBegin, Tx: 0x0102030405060708, Prev: 0x1112131415161718}, "\x01\x01\x02\x03\x04\x05\x06\x07\x08\x11\x12\x13\x14\x15\x16\x17\x18"},
		{"an end", api.Rec{Kind: api.RecEnd, Tx: 5, Prev: 6}, "\x05" + whose},
		{"an op", api.Rec{Kind: api.RecOp, Tx: 5, Prev: 6, Roll: api.Roll{Page: 0x01020304, Slot: 0x0506}, Body: "body"}, "\x02" + whose + "\x01\x02\x03\x04\x05\x06body"},
		{"an op that is not undone", api.Rec{Kind: api.RecOp, Tx: 5, Prev: 6, Body: "\x00"}, "\x02" + whose + zeros(7)},
		{"a clr", api.Rec{Kind: api.RecClr, Tx: 5, Prev: 6, Next: 0x0102030405060708, Body: "body"}, "\x03" + whose + "\x01\x02\x03\x04\x05\x06\x07\x08body"},
		{"a commit", api.Rec{Kind: api.RecCommit, Tx: 5, Prev: 6, Number: math.MaxUint64 - 1, Body: "b"}, "\x04" + whose + "\xff\xff\xff\xff\xff\xff\xff\xfeb"},
		{"a nest", api.Rec{Kind: api.RecNest, Tx: 5, Prev: 6, Body: "body"}, "\x06" + whose + "body"},
		{"a nest that is nobody's", api.Rec{Kind: api.RecNest, Body: "body"}, "\x06" + zeros(16) + "body"},
		{"a checkpoint's begin", api.Rec{Kind: api.RecCheckBegin}, "\x07" + zeros(16)},
		{"a checkpoint's end, without rows", api.Rec{Kind: api.RecCheckEnd, Tables: api.Tables{Tx: 1, Number: 2}}, "\x08" + zeros(16) + zeros(7) + "\x01" + zeros(7) + "\x02\x00\x00"},
		{"a checkpoint's end", api.Rec{Kind: api.RecCheckEnd, Tables: tables()}, "\x08" + zeros(16) + zeros(7) + "\x05" + zeros(7) + "\x03" +
			"\x02\x00\x00\x00\x01" + zeros(7) + "\x14\x00\x00\x00\x03" + zeros(7) + "\x0a" +
			"\x02" + zeros(7) + "\x02" + zeros(7) + "\x1e" + zeros(7) + "\x32" + zeros(7) + "\x28" +
			zeros(7) + "\x04" + zeros(7) + "\x3c" + zeros(7) + "\x3c" + zeros(8)},
	} {
		if s, e := rec.Encode(c.r); s != c.want || e != api.OK {
			t.Errorf("%s: %q, %v, not %q", c.name, s, e, c.want)
		}
		if r, e := rec.Decode(c.want); !plainSame(r, c.r) || e != api.OK {
			t.Errorf("%s: read as %+v, %v", c.name, r, e)
		}
	}
}

// P9.2: bytes that are cut, wherever, or stand elsewhere, are no record's, but where the rest is a shorter body.
func TestDecodeCut(t *testing.T) {
	for _, r := range append(kinds(), many(64, 64), many(3, 0), many(0, 3)) {
		s := plainBytes(r)
		head := len(s) - len(r.Body)
		for n := range len(s) {
			if n <= head {
				none(t, "cut", s[:n])
				continue
			}
			want := r
			want.Body = r.Body[:n-head]
			if q, e := rec.Decode(s[:n]); !plainSame(q, want) || e != api.OK {
				t.Errorf("a body of %d bytes: %+v, %v", n-head, q, e)
			}
		}
		for n := range len(s) {
			sameForm(t, s[n:])
		}
		for n := 1; n < 40; n++ {
			more := s + zeros(n)
			if sameForm(t, more) != (r.Body != "") {
				t.Errorf("%d bytes more: %q", n, more)
			}
		}
		none(t, "bytes more", s+zeros(3072))
		none(t, "far more bytes", s+zeros(1<<24))
	}
	for n := range 5000 {
		none(t, "bytes 0", zeros(n))
		none(t, "bytes 255", strings.Repeat("\xff", n))
	}
}

// P9.2: each byte of some records becomes each other one.
func TestEachByte(t *testing.T) {
	for _, r := range append(kinds(), many(0, 1), many(1, 0), many(5, 2), api.Rec{Kind: api.RecNest, Body: zeros(40)}) {
		s := plainBytes(r)
		for at := range len(s) {
			for c := range 256 {
				sameForm(t, s[:at]+string([]byte{byte(c)})+s[at+1:])
			}
		}
	}
}

// P9.2: how many rows a table is told to have is how many stand there.
func TestTold(t *testing.T) {
	head := "\x08" + zeros(16) + bytesOf(1, 8) + bytesOf(1, 8)
	page := func(n int) string { return bytesOf(uint64(n), 4) + bytesOf(7, 8) }
	tx := func(n int) string { return bytesOf(uint64(n), 8) + bytesOf(7, 8) + bytesOf(7, 8) + bytesOf(0, 8) }
	rows := func(n int, of func(int) string) string {
		s := ""
		for i := range n {
			s += of(i + 1)
		}
		return s
	}
	for pages := range 70 {
		for told := range 256 {
			if (told == pages && pages <= 64) != sameForm(t, head+bytesOf(uint64(told), 1)+rows(pages, page)+"\x00") {
				t.Errorf("%d pages, told to be %d", pages, told)
			}
			if (told == pages && pages <= 64) != sameForm(t, head+"\x00"+bytesOf(uint64(told), 1)+rows(pages, tx)) {
				t.Errorf("%d transactions, told to be %d", pages, told)
			}
		}
	}
}

// P9.1: Same goes by each part, and by each row of each list; nil and empty lists are the same.
func TestSame(t *testing.T) {
	full := func() api.Rec {
		return api.Rec{Kind: 2, Tx: 5, Prev: 6, Roll: api.Roll{Page: 7, Slot: 8}, Next: 9, Number: 10, Body: "body", Tables: tables()}
	}
	if !rec.Same(full(), full()) {
		t.Error("what is the same isn't")
	}
	for i, to := range []func(r *api.Rec){
		func(r *api.Rec) { r.Kind++ },
		func(r *api.Rec) { r.Tx++ },
		func(r *api.Rec) { r.Prev++ },
		func(r *api.Rec) { r.Roll.Page++ },
		func(r *api.Rec) { r.Roll.Slot++ },
		func(r *api.Rec) { r.Next++ },
		func(r *api.Rec) { r.Number++ },
		func(r *api.Rec) { r.Body = "bodi" },
		func(r *api.Rec) { r.Body = "bod" },
		func(r *api.Rec) { r.Body += "\x00" },
		func(r *api.Rec) { r.Tables.Tx++ },
		func(r *api.Rec) { r.Tables.Number++ },
		func(r *api.Rec) { r.Tables.Dirty[0].Page++ },
		func(r *api.Rec) { r.Tables.Dirty[1].From++ },
		func(r *api.Rec) { r.Tables.Dirty = r.Tables.Dirty[:1] },
		func(r *api.Rec) { r.Tables.Dirty = nil },
		func(r *api.Rec) { r.Tables.Dirty = append(r.Tables.Dirty, api.Dirty{}) },
		func(r *api.Rec) { r.Tables.Dirty[0], r.Tables.Dirty[1] = r.Tables.Dirty[1], r.Tables.Dirty[0] },
		func(r *api.Rec) { r.Tables.Txns[0].Tx++ },
		func(r *api.Rec) { r.Tables.Txns[1].First++ },
		func(r *api.Rec) { r.Tables.Txns[0].Last++ },
		func(r *api.Rec) { r.Tables.Txns[1].Next++ },
		func(r *api.Rec) { r.Tables.Txns = r.Tables.Txns[:1] },
		func(r *api.Rec) { r.Tables.Txns = nil },
		func(r *api.Rec) { r.Tables.Txns = append(r.Tables.Txns, api.Active{}) },
		func(r *api.Rec) { r.Tables.Txns[0], r.Tables.Txns[1] = r.Tables.Txns[1], r.Tables.Txns[0] },
	} {
		a, b := full(), full()
		to(&b)
		if rec.Same(a, b) || rec.Same(b, a) || !rec.Same(b, b) {
			t.Errorf("change %d: same: %v", i, rec.Same(a, b))
		}
	}
	empty := api.Rec{Kind: 9, Tables: api.Tables{Dirty: []api.Dirty{}, Txns: []api.Active{}}}
	if !rec.Same(empty, api.Rec{Kind: 9}) || !rec.Same(api.Rec{Kind: 9}, empty) || !rec.Same(api.Rec{}, api.Rec{}) {
		t.Error("lists that are nil, and ones without elements, are not the same")
	}
	same := full()
	same.Tables.Dirty = append(make([]api.Dirty, 0, 9), same.Tables.Dirty...)
	if !rec.Same(same, full()) {
		t.Error("lists that have room are not the same")
	}
}

// P9.1: what is undone is an op with a page in its roll.
func TestUndone(t *testing.T) {
	for kind := range 256 {
		for _, page := range []uint32{0, 1, 2, 1024, math.MaxUint32} {
			for _, slot := range []uint16{0, 1, math.MaxUint16} {
				r := api.Rec{Kind: uint8(kind), Tx: 1, Roll: api.Roll{Page: page, Slot: slot}, Body: "b"}
				if rec.Undone(r) != (kind == 2 && page > 0) {
					t.Errorf("%+v: undone: %v", r, rec.Undone(r))
				}
			}
		}
	}
}

// P9.3: unlike records have unlike bytes, and none has more than 4096.
func TestUnlike(t *testing.T) {
	seen := map[string]api.Rec{}
	for kind := range 10 {
		for whose := range 9 {
			for chosen := range 1 << len(parts()) {
				for _, body := range []string{"", "\x00", "\x01", zeros(2), zeros(6), zeros(8), zeros(9), zeros(18)} {
					r := api.Rec{Kind: uint8(kind), Tx: uint64(whose % 3), Prev: uint64(whose / 3)}
					for i, put := range parts() {
						if chosen>>i&1 == 1 {
							put(&r)
						}
					}
					r.Body = body
					s, e := rec.Encode(r)
					if other, is := seen[s]; e == api.OK && is && !plainSame(r, other) {
						t.Fatalf("%+v and %+v: %q", r, other, s)
					} else if e == api.OK {
						seen[s] = r
					}
				}
			}
		}
	}
	for _, r := range append(kinds(), many(64, 64)) {
		if r.Body != "" {
			r.Body = text(api.MaxBody)
		}
		if s, e := rec.Encode(r); e != api.OK || len(s) > 4096 || len(s) > api.MaxRec {
			t.Errorf("kind %d: %d bytes, %v", r.Kind, len(s), e)
		}
	}
}

// R5: what is read shares no memory with what it was read in, nor what is written with what was handed in, which is not changed.
func TestNewMemory(t *testing.T) {
	inside := func(part, whole string) bool {
		a, b := uintptr(unsafe.Pointer(unsafe.StringData(part))), uintptr(unsafe.Pointer(unsafe.StringData(whole)))
		return len(part) > 0 && a >= b && a < b+uintptr(len(whole))
	}
	for _, r := range kinds() {
		if r.Body != "" {
			r.Body = strings.Repeat("b", 90)
		}
		s, _ := rec.Encode(r)
		if inside(r.Body, s) || inside(s, r.Body) {
			t.Errorf("kind %d is written where its body is", r.Kind)
		}
		if q, _ := rec.Decode(s); !plainSame(q, r) || inside(q.Body, s) {
			t.Errorf("kind %d: what is read is a piece of its bytes", r.Kind)
		}
	}
	r := api.Rec{Kind: api.RecCheckEnd, Tables: tables()}
	s, _ := rec.Encode(r)
	a, _ := rec.Decode(s)
	b, _ := rec.Decode(s)
	a.Tables.Dirty[0].Page, a.Tables.Txns[0].Tx = 99, 99
	if !plainSame(b, r) || !plainSame(r, api.Rec{Kind: api.RecCheckEnd, Tables: tables()}) {
		t.Error("what is read twice is one list")
	}
	same, may := rec.Same(r, b), rec.May(r)
	if !same || !may || !plainSame(r, api.Rec{Kind: api.RecCheckEnd, Tables: tables()}) {
		t.Error("what was handed in is changed")
	}
}
