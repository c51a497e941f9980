package master_test

import (
	"math"
	"strings"
	"testing"
	"unsafe"

	"pentimento/api"
	"pentimento/disk"
	"pentimento/master"
)

// made is a disk of so many sectors.
func made(t *testing.T, sectors int) *disk.Disk {
	t.Helper()
	d, e := disk.New(sectors)
	if d == nil || e != api.OK {
		t.Fatalf("New(%d): %v, %v", sectors, d, e)
	}
	return d
}

// full is a sector of one byte over and over.
func full(c byte) string { return strings.Repeat(string([]byte{c}), 128) }

// is fails, unless e is the error that is wanted.
func is(t *testing.T, what string, e, want api.Errno) {
	t.Helper()
	if e != want {
		t.Errorf("%s: %v, not %v", what, e, want)
	}
}

// encodes fails, unless that is the master's sector.
func encodes(t *testing.T, m api.Master, want string) {
	t.Helper()
	if s, e := master.Encode(m); s != want || e != api.OK {
		t.Errorf("Encode(%v): %q, %v, not %q", m, s, e, want)
	}
}

// refused fails, unless the master has no sector.
func refused(t *testing.T, m api.Master) {
	t.Helper()
	if s, e := master.Encode(m); s != "" || e != api.ErrArg {
		t.Errorf("Encode(%v): %q, %v", m, s, e)
	}
}

// decodes fails, unless s is that master's sector.
func decodes(t *testing.T, what, s string, want api.Master) {
	t.Helper()
	if m, e := master.Decode(s); m != want || e != api.OK {
		t.Errorf("%s: Decode(%q): %v, %v, not %v", what, s, m, e, want)
	}
}

// formless fails, unless s is no master's sector.
func formless(t *testing.T, what, s string) {
	t.Helper()
	if m, e := master.Decode(s); m != (api.Master{}) || e != api.ErrForm {
		t.Errorf("%s: Decode(%q): %v, %v", what, s, m, e)
	}
}

// loads fails, unless that is what Load answers.
func loads(t *testing.T, what string, d *disk.Disk, at int, want api.Master, no api.Errno) {
	t.Helper()
	if m, e := master.Load(d, at); m != want || e != no {
		t.Errorf("%s: Load(%d): %v, %v, not %v, %v", what, at, m, e, want, no)
	}
}

// stores fails, unless the master is stored.
func stores(t *testing.T, what string, d *disk.Disk, at int, m api.Master) {
	t.Helper()
	if e := master.Store(d, at, m); e != api.OK {
		t.Errorf("%s: Store(%d, %v): %v", what, at, m, e)
	}
}

// alike fails, unless both disks have the same, sure and loose, and stand still alike.
func alike(t *testing.T, what string, a, b *disk.Disk) {
	t.Helper()
	if a.Sure() != b.Sure() || a.Loose() != b.Loose() || a.Len() != b.Len() {
		t.Errorf("%s: the disk has %q, %d loose, not %q, %d", what, a.Sure(), a.Loose(), b.Sure(), b.Loose())
	}
	for k := range a.Len() {
		s, e := a.Read(k)
		if x, f := b.Read(k); s != x || e != f {
			t.Errorf("%s: sector %d: %q, %v, not %q, %v", what, k, s, e, x, f)
		}
	}
	// How far the fuses have burnt is told by further syncs.
	a, b = a.Copy(), b.Copy()
	for range 4 {
		is(t, what+": a further sync", a.Sync(), b.Sync())
	}
}

// one is a master that may be.
func one() api.Master {
	return api.Master{Count: 0x0102030405060708, Life: 0x1112131415161718, Check: 0x3132333435363738, First: 0x2122232425262728, Clean: true}
}

// P12.1: a sector whose bytes are written out.
func TestBytes(t *testing.T) {
	zeros := strings.Repeat("\x00", 90)
	s := "\x01" +
		"\x01\x02\x03\x04\x05\x06\x07\x08" +
		"\x11\x12\x13\x14\x15\x16\x17\x18" +
		"\x31\x32\x33\x34\x35\x36\x37\x38" +
		"\x21\x22\x23\x24\x25\x26\x27\x28" +
		"\x01" + zeros
	if len(s) != 124 {
		t.Fatal(len(s))
	}
	encodes(t, one(), sealed(s))
	decodes(t, "clean", sealed(s), one())

	open := one()
	open.Clean, open.Check = false, 0
	s = s[:17] + strings.Repeat("\x00", 8) + s[25:33] + "\x00" + zeros
	encodes(t, open, sealed(s))
	decodes(t, "not clean", sealed(s), open)
}

// P12.1: the last four bytes are the sum of the others, the lowest first, written out.
func TestSum(t *testing.T) {
	m := api.Master{Count: 1, Life: 1, First: 1}
	s, e := master.Encode(m)
	if len(s) != 128 || e != api.OK {
		t.Fatalf("%q, %v", s, e)
	}
	if got := s[124:]; got != sumOfLeast {
		t.Errorf("%q, not %q", got, sumOfLeast)
	}
}

// sumOfLeast is the sum of the sector of the least master.
const sumOfLeast = "\x4a\xe1\xc3\x10"

// P12.1: which masters may be, at the edges.
func TestMay(t *testing.T) {
	const most = math.MaxUint64
	for _, c := range []struct {
		m   api.Master
		may bool
	}{
		{api.Master{Count: 1, Life: 1, First: 1}, true},
		{api.Master{Count: 2, Life: 3, First: 4, Clean: true}, true},
		{api.Master{Count: most, Life: most, Check: most, First: most, Clean: true}, true},
		{api.Master{Count: 1 << 63, Life: 1 << 63, First: 1 << 63}, true},
		{api.Master{}, false},
		{api.Master{Clean: true}, false},
		{api.Master{Life: 1, First: 1}, false},
		{api.Master{Count: 1, First: 1}, false},
		{api.Master{Count: 1, Life: 1}, false},
		{api.Master{Count: 1, Life: 1, Check: 1}, false},
		{api.Master{Count: 1, Life: 1, First: 110, Check: 0}, true},
		{api.Master{Count: 1, Life: 1, First: 110, Check: 1}, false},
		{api.Master{Count: 1, Life: 1, First: 110, Check: 109}, false},
		{api.Master{Count: 1, Life: 1, First: 110, Check: 110}, true},
		{api.Master{Count: 1, Life: 1, First: 110, Check: 111}, true},
		{api.Master{Count: 1, Life: 1, First: 1, Check: 1}, true},
		{api.Master{Count: 1, Life: 1, First: 1, Check: most}, true},
		{api.Master{Count: 1, Life: 1, First: most, Check: most - 1}, false},
		{api.Master{Count: 1, Life: 1, First: most}, true},
		{api.Master{Count: 1, Life: 1, First: 1 << 63, Check: 1}, false},
		{api.Master{Count: 1, Life: 1, First: 1, Check: 1 << 63}, true},
	} {
		if !c.may {
			refused(t, c.m)
			formless(t, "may not be", plainSector(c.m))
			continue
		}
		encodes(t, c.m, plainSector(c.m))
		decodes(t, "may be", plainSector(c.m), c.m)
	}
}

// P12.1: a text of another length is no sector, whatever it begins with.
func TestDecodeLong(t *testing.T) {
	s := plainSector(one())
	for n := range 128 {
		formless(t, "cut", s[:n])
		formless(t, "cut ahead", s[128-n:])
	}
	for _, more := range []string{"\x00", "x", "\x00\x00\x00\x00", s} {
		formless(t, "more", s+more)
		formless(t, "more ahead", more+s)
	}
	for _, n := range []int{0, 1, 33, 34, 89, 91, 94, 200} {
		formless(t, "sealed", sealed(s[:34]+strings.Repeat("\x00", n)))
	}
	formless(t, "sealed twice", sealed(s))
	formless(t, "sealed short", sealed(""))
	formless(t, "zeros", full(0))
	formless(t, "long", strings.Repeat(s, 1000))
}

// P12.1: each byte that is turned makes it none, if it isn't sealed again.
func TestDecodeTorn(t *testing.T) {
	s := plainSector(one())
	for i := range 128 {
		for _, x := range []byte{1, 2, 0x80, 0xff} {
			b := []byte(s)
			b[i] ^= x
			formless(t, "turned", string(b))
		}
	}
}

// P12.1: sealed as it must be, it is none, if a byte of its form, of its flag, or of its zeros is another one.
func TestDecodeForm(t *testing.T) {
	s := plainSector(one())[:124]
	change := func(at int, c byte) string {
		return sealed(s[:at] + string([]byte{c}) + s[at+1:])
	}
	for c := range 256 {
		if c != 1 {
			formless(t, "begin", change(0, byte(c)))
		}
		if c > 1 {
			formless(t, "flag", change(33, byte(c)))
		}
		if c > 0 {
			for _, at := range []int{34, 35, 64, 100, 122, 123} {
				formless(t, "zeros", change(at, byte(c)))
			}
		}
	}
	for at := 34; at < 124; at++ {
		formless(t, "zeros", change(at, 1))
	}
	open := one()
	open.Clean = false
	decodes(t, "flag", change(33, 0), open)
}

// P12.2: nobody's sectors have no master; a sector that was not read tells its error.
func TestLoadNone(t *testing.T) {
	for _, n := range []int{2, 3, 100} {
		d := made(t, n)
		for at := -3; at < n+3; at++ {
			no := api.ErrCorrupt
			if at < 0 || at+1 >= n {
				no = api.ErrArg
			}
			loads(t, "zeros", d, at, api.Master{}, no)
		}
	}
	d := made(t, 1)
	for _, at := range []int{-1, 0, 1, math.MaxInt, math.MaxInt - 1, math.MinInt, math.MinInt + 1} {
		loads(t, "one sector", d, at, api.Master{}, api.ErrArg)
	}
}

// P12.2: with one sector of the two missing there is ErrArg, even if the other one has a master.
func TestLoadHalf(t *testing.T) {
	d := made(t, 1)
	d.Write(0, plainSector(api.Master{Count: 2, Life: 1, First: 1}))
	loads(t, "right one missing", d, 0, api.Master{}, api.ErrArg)
	d.Write(0, plainSector(api.Master{Count: 1, Life: 1, First: 1}))
	loads(t, "left one missing", d, -1, api.Master{}, api.ErrArg)
}

// P12.2, R3: no disk has ErrNil, ahead of all else.
func TestNil(t *testing.T) {
	for name, d := range map[string]*disk.Disk{"nil": nil, "not made": new(disk.Disk)} {
		for _, at := range []int{-1, 0, 1, math.MaxInt, math.MinInt} {
			loads(t, name, d, at, api.Master{}, api.ErrNil)
			for _, m := range []api.Master{{}, one(), {Count: 1, Life: 1, First: 1}, {Count: 1, Life: 1, First: 2, Check: 1}} {
				is(t, name, master.Store(d, at, m), api.ErrNil)
			}
		}
	}
}

// P12.2: which error is told first: one of the master, then that the disk stands still, then that there is no such sector. What is refused changes nothing, and is nothing that a fuse counts.
func TestStoreOrder(t *testing.T) {
	still := func(n int) *disk.Disk {
		d := made(t, n)
		d.Fuse(0)
		return d
	}
	good, bad := api.Master{Count: 2, Life: 1, First: 1}, api.Master{Count: 2, Life: 1, First: 2, Check: 1}
	odd := good
	odd.Count = 3
	for _, c := range []struct {
		what string
		d    *disk.Disk
		at   int
		m    api.Master
		no   api.Errno
	}{
		{"bad, still, nowhere", still(2), 9, bad, api.ErrArg},
		{"bad, still", still(2), 0, bad, api.ErrArg},
		{"bad, nowhere", made(t, 2), 9, bad, api.ErrArg},
		{"bad", made(t, 2), 0, bad, api.ErrArg},
		{"none", made(t, 2), 0, api.Master{}, api.ErrArg},
		{"still, nowhere", still(2), 9, good, api.ErrDown},
		{"still", still(2), 0, good, api.ErrDown},
		{"nowhere", made(t, 2), 2, good, api.ErrArg},
		{"ahead", made(t, 2), -1, good, api.ErrArg},
		{"far ahead", made(t, 2), -2, odd, api.ErrArg},
		{"odd, nowhere", made(t, 2), 1, odd, api.ErrArg},
		{"far away", made(t, 2), math.MaxInt, odd, api.ErrArg},
		{"far away", made(t, 2), math.MaxInt, good, api.ErrArg},
		{"far away", made(t, 2), math.MinInt, odd, api.ErrArg},
		{"far away", made(t, 2), math.MinInt, good, api.ErrArg},
	} {
		was := c.d.Copy()
		is(t, c.what, master.Store(c.d, c.at, c.m), c.no)
		alike(t, c.what, c.d, was)
	}
	d := made(t, 2)
	d.Fuse(2)
	is(t, "bad", master.Store(d, 0, bad), api.ErrArg)
	is(t, "nowhere", master.Store(d, 1, odd), api.ErrArg)
	stores(t, "the fuse is as it was", d, 0, good)
	is(t, "burnt down", d.Sync(), api.ErrDown)
}

// P12.2: a disk that stands still tells so when it is read, ahead of which sectors there are.
func TestLoadStill(t *testing.T) {
	d := made(t, 2)
	stores(t, "ahead", d, 0, api.Master{Count: 1, Life: 1, First: 1})
	d.Fuse(0)
	for _, at := range []int{-1, 0, 1, 2} {
		loads(t, "still", d, at, api.Master{}, api.ErrDown)
	}
	d.Crash()
	loads(t, "going on", d, 0, api.Master{Count: 1, Life: 1, First: 1}, api.OK)
}

// P12.2: an even one stands at the place, an odd one next to it; no other sector is touched, all is sure.
func TestStoreWhere(t *testing.T) {
	for at := range 4 {
		for count := uint64(1); count < 9; count++ {
			d := made(t, 6)
			for k := range 6 {
				d.Write(k, full(byte('a'+k)))
			}
			m := api.Master{Count: count, Life: 7, First: 110}
			stores(t, "where", d, at, m)
			image := ""
			for k := range 6 {
				if k == at+int(count%2) {
					image += plainSector(m)
				} else {
					image += full(byte('a' + k))
				}
			}
			if d.Sure() != image || d.Loose() != 0 {
				t.Errorf("at %d, count %d: %q is sure, %d loose", at, count, d.Sure(), d.Loose())
			}
			loads(t, "where", d, at, m, api.OK)
		}
	}
}

// P12.2: what is stored is written and synced, not more: a fuse tells.
func TestStoreSteps(t *testing.T) {
	m := api.Master{Count: 1, Life: 1, First: 1}
	for n := range 4 {
		d := made(t, 2)
		d.Write(0, full('l'))
		d.Fuse(n)
		e := master.Store(d, 0, m)
		loose, no := [...]int{1, 2, 0, 0}[n], [...]api.Errno{api.ErrDown, api.ErrDown, api.OK, api.OK}[n]
		if e != no || d.Loose() != loose {
			t.Errorf("a fuse of %d: %v, %d loose", n, e, d.Loose())
		}
		down := api.ErrDown
		if n == 3 {
			down = api.OK
		}
		is(t, "a further sync", d.Sync(), down)
	}
}

// P12.2: of two masters the one with the greater Count is loaded, whichever sector it is in, and whatever else it has.
func TestLoadGreater(t *testing.T) {
	const most = math.MaxUint64
	for _, c := range []struct{ left, right, want uint64 }{
		{2, 1, 2}, {2, 3, 3}, {4, 1, 4}, {2, 9, 9}, {100, 3, 100}, {256, 255, 256}, {256, 257, 257},
		{most - 1, most, most}, {most - 1, most - 2, most - 1}, {1 << 63, 1<<63 - 1, 1 << 63}, {1 << 63, 1<<63 + 1, 1<<63 + 1},
		{2, most, most}, {most - 1, 1, most - 1}, {1 << 32, 1, 1 << 32}, {1 << 32, 1<<32 + 1, 1<<32 + 1},
	} {
		for _, clean := range []bool{false, true} {
			left := api.Master{Count: c.left, Life: 9, Check: 800, First: 700, Clean: clean}
			right := api.Master{Count: c.right, Life: 8, First: 900, Clean: !clean}
			want := left
			if c.want == c.right {
				want = right
			}
			d := made(t, 5)
			d.Write(3, plainSector(left))
			d.Write(4, plainSector(right))
			loads(t, "loose", d, 3, want, api.OK)
			d.Sync()
			loads(t, "sure", d, 3, want, api.OK)
		}
	}
}

// P12.2: a master that stands in the other one's sector is none.
func TestLoadWrongPlace(t *testing.T) {
	even, odd := api.Master{Count: 4, Life: 1, First: 1}, api.Master{Count: 3, Life: 1, First: 1}
	for _, c := range []struct {
		what        string
		left, right string
		want        api.Master
		no          api.Errno
	}{
		{"both turned about", plainSector(odd), plainSector(even), api.Master{}, api.ErrCorrupt},
		{"an odd one on the left", plainSector(odd), full(0), api.Master{}, api.ErrCorrupt},
		{"an even one on the right", full(0), plainSector(even), api.Master{}, api.ErrCorrupt},
		{"the same on both", plainSector(even), plainSector(even), even, api.OK},
		{"the same on both", plainSector(odd), plainSector(odd), odd, api.OK},
		{"a greater one on the left, where it doesn't stand", plainSector(api.Master{Count: 9, Life: 1, First: 1}), plainSector(odd), odd, api.OK},
		{"a greater one on the right, where it doesn't stand", plainSector(even), plainSector(api.Master{Count: 10, Life: 1, First: 1}), even, api.OK},
		{"a torn one on the right", plainSector(even), plainSector(odd)[:127] + "x", even, api.OK},
		{"a torn one on the left", plainSector(even)[:127] + "x", plainSector(odd), odd, api.OK},
		{"one that may not be", plainSector(api.Master{Count: 8, First: 1}), plainSector(odd), odd, api.OK},
		{"one that may not be", plainSector(even), plainSector(api.Master{Count: 9, Life: 1}), even, api.OK},
		{"a Count of 0", plainSector(api.Master{Life: 1, First: 1}), full(0), api.Master{}, api.ErrCorrupt},
		{"no masters", full('x'), full('y'), api.Master{}, api.ErrCorrupt},
	} {
		d := made(t, 2)
		d.Write(0, c.left)
		d.Write(1, c.right)
		loads(t, c.what, d, 0, c.want, c.no)
	}
}

// P12.2: loading changes nothing, and is nothing that a fuse counts.
func TestLoadChangesNothing(t *testing.T) {
	d := made(t, 3)
	stores(t, "ahead", d, 1, api.Master{Count: 1, Life: 1, First: 1})
	d.Write(0, full('l'))
	d.Fuse(1)
	was := d.Copy()
	loads(t, "there", d, 1, api.Master{Count: 1, Life: 1, First: 1}, api.OK)
	loads(t, "none", d, 0, api.Master{}, api.ErrCorrupt)
	loads(t, "nowhere", d, 2, api.Master{}, api.ErrArg)
	alike(t, "loaded", d, was)
}

// P12.3: what was stored last is loaded, while Counts rise, in whatever steps.
func TestStoreLoad(t *testing.T) {
	d := made(t, 3)
	count := uint64(0)
	for i := range uint64(40) {
		count += 1 + i%3
		m := api.Master{Count: count, Life: 1 + i/4, Check: (110 + i) * (i % 2), First: 110, Clean: i%5 == 0}
		stores(t, "rising", d, 1, m)
		loads(t, "rising", d, 1, m, api.OK)
		d.Crash()
		loads(t, "behind a crash", d, 1, m, api.OK)
	}
}

// P12.3: behind a crash while one is stored the one ahead is loaded, or it: whenever it comes, whatever it keeps.
func TestStoreCrash(t *testing.T) {
	for count := uint64(1); count < 5; count++ {
		ahead := api.Master{Count: count, Life: 1, First: 110}
		next := api.Master{Count: count + 1, Life: 2, First: 220, Check: 330, Clean: true}
		for fuse := range 4 {
			for _, keep := range []bool{false, true} {
				d := made(t, 2)
				stores(t, "ahead", d, 0, ahead)
				d.Fuse(fuse)
				e := master.Store(d, 0, next)
				d.Crash(keep)
				want, no := ahead, api.ErrDown
				if fuse > 1 || fuse == 1 && keep {
					want = next
				}
				if fuse > 1 {
					no = api.OK
				}
				is(t, "Store", e, no)
				loads(t, "behind a crash", d, 0, want, api.OK)
				if s, _ := d.Read(int(count % 2)); s != plainSector(ahead) {
					t.Errorf("the one ahead, %d, was touched: %q", count, s)
				}
			}
		}
	}
}

// P12.3: the first one that is stored is there, or none is.
func TestStoreCrashFirst(t *testing.T) {
	m := api.Master{Count: 1, Life: 1, First: 1}
	for _, keep := range []bool{false, true} {
		d := made(t, 2)
		d.Fuse(1)
		is(t, "Store", master.Store(d, 0, m), api.ErrDown)
		d.Crash(keep)
		if keep {
			loads(t, "kept", d, 0, m, api.OK)
		} else {
			loads(t, "lost", d, 0, api.Master{}, api.ErrCorrupt)
		}
	}
}

// P12.2: two pairs of sectors on one disk don't touch each other.
func TestPairs(t *testing.T) {
	d := made(t, 4)
	a, b := api.Master{Count: 5, Life: 1, First: 1}, api.Master{Count: 8, Life: 2, First: 2}
	stores(t, "first pair", d, 0, a)
	stores(t, "second pair", d, 2, b)
	loads(t, "first pair", d, 0, a, api.OK)
	loads(t, "second pair", d, 2, b, api.OK)
	// An odd one at 1 and an even one at 2 stand elsewhere, if 1 is the place.
	loads(t, "across", d, 1, api.Master{}, api.ErrCorrupt)
}

// R5: a sector that is answered is new memory each time.
func TestNewMemory(t *testing.T) {
	a, _ := master.Encode(one())
	b, _ := master.Encode(one())
	if unsafe.StringData(a) == unsafe.StringData(b) {
		t.Error("two sectors share memory")
	}
}

// R6: an answer doesn't hang on what was asked before.
func TestSameAgain(t *testing.T) {
	s := plainSector(one())
	d := made(t, 2)
	d.Write(0, s)
	for range 3 {
		encodes(t, one(), s)
		decodes(t, "again", s, one())
		refused(t, api.Master{})
		formless(t, "again", s[1:])
		loads(t, "again", d, 0, one(), api.OK)
	}
}
