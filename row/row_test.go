package row_test

import (
	"math"
	"strings"
	"testing"
	"unsafe"

	"pentimento/api"
	"pentimento/row"
)

// full is a row with something in each part.
func full() api.Row {
	return api.Row{Key: "key", Mark: true, Tx: 0x0102030405060708, Roll: api.Roll{Page: 0x0304, Slot: 0x0506}, Value: "value", Pad: 3}
}

// with is that row, changed.
func with(to func(r *api.Row)) api.Row {
	r := full()
	to(&r)
	return r
}

// text is n bytes, none of which is 0.
func text(n int) string { return strings.Repeat("t", n) }

// none fails, unless s is no row's bytes.
func none(t *testing.T, what, s string) {
	t.Helper()
	if r, e := row.Decode(s); e != api.ErrForm || r != (api.Row{}) {
		t.Errorf("%s: %+v, %v", what, r, e)
	}
}

// noEntry fails, unless s is no entry's bytes.
func noEntry(t *testing.T, what, s string) {
	t.Helper()
	if x, e := row.DecodeEntry(s); e != api.ErrForm || x != (api.Entry{}) {
		t.Errorf("%s: %+v, %v", what, x, e)
	}
}

// asIs fails, unless a row may be just if it should, and is written, read and measured accordingly.
func asIs(t *testing.T, what string, r api.Row, may bool) {
	t.Helper()
	if row.May(r) != may || plainMay(r) != may {
		t.Errorf("%s: may be: %v, not %v", what, row.May(r), may)
	}
	s, e := row.Encode(r)
	n := row.Size(r)
	plain := plainBytes(r)
	if !may {
		if s != "" || e != api.ErrArg || n != 0 {
			t.Errorf("%s: Encode: %q, %v; size %d", what, s, e, n)
		}
		return
	}
	if s != plain || e != api.OK || n != len(plain) {
		t.Errorf("%s: Encode: %q, %v; size %d; not %q", what, s, e, n, plain)
	}
	if q, e := row.Decode(plain); q != r || e != api.OK {
		t.Errorf("%s: Decode: %+v, %v", what, q, e)
	}
}

// P7.1: a key of 1 to 48 bytes, whichever they are.
func TestKey(t *testing.T) {
	for _, n := range []int{0, 1, 2, 47, 48, 49, 50, 127, 128, 255, 256, 257, 300, 304, 1 << 16, 1<<16 + 1, 1 << 20} {
		for _, c := range []string{"\x00", "k", "\xff"} {
			r := full()
			r.Key = strings.Repeat(c, n)
			asIs(t, "a key", r, n >= 1 && n <= 48)
		}
	}
	asIs(t, "a key of two bytes a letter", with(func(r *api.Row) { r.Key = strings.Repeat("é", 24) }), true)
	asIs(t, "a key of two bytes a letter, too long", with(func(r *api.Row) { r.Key = strings.Repeat("é", 25) }), false)
	asIs(t, "nothing", api.Row{}, false)
	asIs(t, "nothing but a key", api.Row{Key: "k"}, true)
}

// P7.1: value and pad together have at most 96 bytes, the pad 0 at least.
func TestValueAndPad(t *testing.T) {
	lens := []int{0, 1, 2, 47, 48, 95, 96, 97, 98, 192, 255, 256, 257, 352, 1 << 16, 1 << 20}
	pads := append([]int{-1, -2, -95, -96, -97, -255, -256, -1 << 16, math.MinInt32, math.MaxInt32, 1<<32 - 1, 1 << 32, 1<<32 + 1, math.MinInt, math.MinInt + 1, math.MinInt + 96, math.MaxInt, math.MaxInt - 1, math.MaxInt - 96}, lens...)
	for _, n := range lens {
		for _, pad := range pads {
			r := full()
			r.Value, r.Pad = text(n), pad
			asIs(t, "a value and a pad", r, n <= 96 && pad >= 0 && pad <= 96-n)
		}
	}
	for n := range 97 {
		r := full()
		r.Value = zeros(n)
		for r.Pad = 0; r.Pad <= 98; r.Pad++ {
			asIs(t, "a value of bytes 0", r, n+r.Pad <= 96)
		}
	}
}

// P7.1: a roll's page is at most 1024, and its slot is 0, if the page is.
func TestRoll(t *testing.T) {
	for _, p := range []uint32{0, 1, 255, 256, 1023, 1024, 1025, 1 << 15, 1 << 16, 1<<16 + 1, 1 << 31, math.MaxUint32} {
		for _, n := range []uint16{0, 1, 255, 256, 1 << 15, math.MaxUint16} {
			r := full()
			r.Roll = api.Roll{Page: p, Slot: n}
			may := p <= 1024 && (p > 0 || n == 0)
			asIs(t, "a roll", r, may)
			if !may {
				none(t, "a roll that may not be", plainBytes(r))
			}
		}
	}
}

// P7.1: any transaction, marked or not, with a value or without.
func TestMarkAndTx(t *testing.T) {
	for _, tx := range []uint64{0, 1, 255, 256, 1 << 31, 1 << 32, 1 << 63, math.MaxUint64} {
		for _, mark := range []bool{false, true} {
			for _, value := range []string{"", "v", text(93)} {
				r := full()
				r.Tx, r.Mark, r.Value = tx, mark, value
				asIs(t, "a transaction", r, true)
			}
		}
	}
}

// P7.1: what a row's bytes are, written out.
func TestEncode(t *testing.T) {
	for _, c := range []struct {
		name string
		r    api.Row
		want string
	}{
		{"the least row", api.Row{Key: "k"}, zeros(15) + "\x01k\x00"},
		{"the chapter's example", api.Row{Key: "a", Value: "xy", Pad: 1}, "\x00" + zeros(14) + "\x01a\x02xy\x00"},
		{"something in each part", full(), "\x01\x01\x02\x03\x04\x05\x06\x07\x08\x00\x00\x03\x04\x05\x06\x03key\x05value\x00\x00\x00"},
		{"the mark alone", api.Row{Key: "k", Mark: true}, "\x01" + zeros(14) + "\x01k\x00"},
		{"the transaction alone", api.Row{Key: "k", Tx: math.MaxUint64 - 1}, "\x00\xff\xff\xff\xff\xff\xff\xff\xfe" + zeros(6) + "\x01k\x00"},
		{"the roll alone", api.Row{Key: "k", Roll: api.Roll{Page: 1024, Slot: math.MaxUint16 - 1}}, zeros(9) + "\x00\x00\x04\x00\xff\xfe\x01k\x00"},
		{"the pad alone", api.Row{Key: "k", Pad: 96}, zeros(15) + "\x01k\x00" + zeros(96)},
		{"a value that ends in bytes 0", api.Row{Key: "k", Value: "v\x00\x00"}, zeros(15) + "\x01k\x03v\x00\x00"},
		{"that value, as a pad", api.Row{Key: "k", Value: "v", Pad: 2}, zeros(15) + "\x01k\x01v\x00\x00"},
		{"the longest one", api.Row{Key: text(48), Value: text(96)}, zeros(15) + "\x30" + text(48) + "\x60" + text(96)},
		{"the longest one, with a pad", api.Row{Key: text(48), Value: text(40), Pad: 56}, zeros(15) + "\x30" + text(48) + "\x28" + text(40) + zeros(56)},
	} {
		if s, e := row.Encode(c.r); s != c.want || e != api.OK {
			t.Errorf("%s: %q, %v, not %q", c.name, s, e, c.want)
		}
		if r, e := row.Decode(c.want); r != c.r || e != api.OK {
			t.Errorf("%s: read as %+v, %v", c.name, r, e)
		}
		if n := row.Size(c.r); n != len(c.want) {
			t.Errorf("%s: size %d, not %d", c.name, n, len(c.want))
		}
	}
}

// P7.1: bytes that are cut, wherever, or stand elsewhere, are no row's, but where the rest of a pad is cut.
func TestDecodeCut(t *testing.T) {
	for _, r := range []api.Row{{Key: "k"}, full(), {Key: text(48), Value: text(96)}, {Key: zeros(9), Value: zeros(9), Pad: 9}} {
		s := plainBytes(r)
		bare := len(s) - r.Pad
		for n := range bare {
			none(t, "cut", s[:n])
		}
		for n := range r.Pad {
			want := r
			want.Pad = n
			if q, e := row.Decode(s[:bare+n]); q != want || e != api.OK {
				t.Errorf("a pad of %d bytes: %+v, %v", n, q, e)
			}
		}
		none(t, "a byte more", s+"\x01")
		none(t, "bytes more", s+zeros(97))
		none(t, "twice", s+s)
	}
	s := plainBytes(full())
	for n := 1; n <= len(s); n++ {
		none(t, "its end", s[n:])
	}
	none(t, "nothing", "")
	for n := range 300 {
		none(t, "bytes 0", zeros(n))
		none(t, "bytes 255", strings.Repeat("\xff", n))
	}
	none(t, "far too long", zeros(1<<20))
	none(t, "far too long", s+zeros(1<<24))
}

// P7.1: bytes of which each part is there, but one may not be.
func TestDecodeNone(t *testing.T) {
	s := plainBytes(full())
	for c := 2; c < 256; c++ {
		none(t, "another mark", string([]byte{byte(c)})+s[1:])
	}
	head := zeros(15)
	for n := range 256 {
		key := bytesOf(uint64(n), 1) + text(n) + "\x00"
		if r, e := row.Decode(head + key); (e == api.OK) != (n >= 1 && n <= 48) || e == api.OK && r != (api.Row{Key: text(n)}) {
			t.Errorf("a key of %d bytes: %+v, %v", n, r, e)
		}
		value := "\x01k" + bytesOf(uint64(n), 1) + text(n)
		if r, e := row.Decode(head + value); (e == api.OK) != (n <= 96) || e == api.OK && r != (api.Row{Key: "k", Value: text(n)}) {
			t.Errorf("a value of %d bytes: %+v, %v", n, r, e)
		}
		if r, e := row.Decode(head + "\x01k\x00" + zeros(n)); (e == api.OK) != (n <= 96) || e == api.OK && r != (api.Row{Key: "k", Pad: n}) {
			t.Errorf("a pad of %d bytes: %+v, %v", n, r, e)
		}
	}
	for _, c := range []struct{ name, rest string }{
		{"a key longer than what is there", "\x02k"},
		{"a key up to the end", "\x02k\x00"},
		{"a value longer than what is there", "\x01k\x02v"},
		{"a value far longer than what is there", "\x01k\xffv"},
		{"a value and a pad of 97 bytes", "\x01k\x50" + text(80) + zeros(17)},
		{"a pad of other bytes", "\x01k\x01vp"},
		{"a pad that ends in another byte", "\x01k\x01v\x00\x00p"},
		{"a pad that begins with another byte", "\x01k\x01vp\x00\x00"},
		{"a pad with another byte within", "\x01k\x01v\x00\x80\x00"},
	} {
		none(t, c.name, head+c.rest)
	}
}

// P7.3: a row takes as many bytes with a shorter value, if its pad is that much longer.
func TestPad(t *testing.T) {
	for room := range 97 {
		want := 17 + 3 + room
		for n := range room + 1 {
			r := full()
			r.Value, r.Pad = text(n), room-n
			s, e := row.Encode(r)
			if len(s) != want || e != api.OK || row.Size(r) != want {
				t.Errorf("a value of %d, a pad of %d: %d bytes, %v, size %d, not %d", n, room-n, len(s), e, row.Size(r), want)
			}
		}
	}
}

// P7.2: an entry's key has at most 48 bytes, none at least; its child is from 1 to 1024.
func TestEncodeEntry(t *testing.T) {
	for _, n := range []int{0, 1, 2, 47, 48, 49, 50, 96, 255, 256, 257, 1 << 16, 1 << 20} {
		for _, child := range []uint32{0, 1, 2, 255, 256, 1023, 1024, 1025, 1 << 15, 1 << 16, 1<<16 + 1, 1 << 31, math.MaxUint32} {
			for _, c := range []string{"\x00", "k", "\xff"} {
				x := api.Entry{Key: strings.Repeat(c, n), Child: child}
				may := n <= 48 && child >= 1 && child <= 1024
				s, e := row.EncodeEntry(x)
				if may && (s != plainEntry(x) || e != api.OK) || !may && (s != "" || e != api.ErrArg) {
					t.Errorf("child %d, a key of %d bytes %q: %q, %v", child, n, c, s, e)
				}
				if sameEntry(t, plainEntry(x)) != may {
					t.Errorf("child %d, a key of %d bytes %q: is read: %v", child, n, c, !may)
				}
			}
		}
	}
	if s, e := row.EncodeEntry(api.Entry{}); s != "" || e != api.ErrArg {
		t.Errorf("no child: %q, %v", s, e)
	}
}

// P7.2: what an entry's bytes are, written out.
func TestEntryBytes(t *testing.T) {
	for s, x := range map[string]api.Entry{
		"\x00\x00\x00\x01":                 {Child: 1},
		"\x00\x00\x03\x04key":              {Key: "key", Child: 0x0304},
		"\x00\x00\x04\x00" + text(48):      {Key: text(48), Child: 1024},
		"\x00\x00\x00\x02\x00":             {Key: "\x00", Child: 2},
		"\x00\x00\x00\x02\x00\x00\x00\x02": {Key: "\x00\x00\x00\x02", Child: 2},
	} {
		if got, e := row.EncodeEntry(x); got != s || e != api.OK {
			t.Errorf("%+v: %q, %v, not %q", x, got, e, s)
		}
		if got, e := row.DecodeEntry(s); got != x || e != api.OK {
			t.Errorf("%q: %+v, %v, not %+v", s, got, e, x)
		}
	}
}

// P7.2: bytes that are no entry's.
func TestDecodeEntryNone(t *testing.T) {
	for n := range 300 {
		noEntry(t, "bytes 0", zeros(n))
		noEntry(t, "bytes 255", strings.Repeat("\xff", n))
		if n < 4 {
			noEntry(t, "a child that is cut", "\x00\x00\x03\x04"[:n])
			noEntry(t, "a child's end", "\x00\x00\x03\x04"[4-n:])
		}
		if n > 48 {
			noEntry(t, "a key that is too long", "\x00\x00\x03\x04"+text(n))
		}
	}
	noEntry(t, "far too long", "\x00\x00\x03\x04"+zeros(1<<24))
}

// R5: what is read shares no memory with what it was read in, nor what is written with what was handed in.
func TestNewMemory(t *testing.T) {
	inside := func(part, whole string) bool {
		a, b := uintptr(unsafe.Pointer(unsafe.StringData(part))), uintptr(unsafe.Pointer(unsafe.StringData(whole)))
		return len(part) > 0 && a >= b && a < b+uintptr(len(whole))
	}
	x := api.Row{Key: strings.Repeat("k", 40), Value: strings.Repeat("v", 90)}
	s, _ := row.Encode(x)
	if inside(s, x.Key) || inside(s, x.Value) {
		t.Error("a row is written where its texts are")
	}
	if r, _ := row.Decode(s); r != x || inside(r.Key, s) || inside(r.Value, s) {
		t.Error("what is read of a row is a piece of its bytes")
	}
	y := api.Entry{Key: strings.Repeat("k", 40), Child: 9}
	s, _ = row.EncodeEntry(y)
	if inside(s, y.Key) {
		t.Error("an entry is written where its key is")
	}
	if e, _ := row.DecodeEntry(s); e != y || inside(e.Key, s) {
		t.Error("what is read of an entry is a piece of its bytes")
	}
}
