package disk_test

import (
	"math"
	"math/rand/v2"
	"slices"
	"strings"
	"testing"
	"unsafe"

	"pentimento/api"
	"pentimento/disk"
)

// full is a sector of one byte over and over.
func full(c byte) string {
	return strings.Repeat(string([]byte{c}), 128)
}

// zero is a sector that nobody wrote.
func zero() string { return full(0) }

// made is a disk of so many sectors.
func made(t *testing.T, sectors int) *disk.Disk {
	t.Helper()
	d, e := disk.New(sectors)
	if d == nil || e != api.OK {
		t.Fatalf("New(%d): %v, %v", sectors, d, e)
	}
	return d
}

// is fails, unless e is the error that is wanted.
func is(t *testing.T, what string, e, want api.Errno) {
	t.Helper()
	if e != want {
		t.Errorf("%s: %v, not %v", what, e, want)
	}
}

// reads fails, unless the sectors have these bytes, over and over, from sector 0 on.
func reads(t *testing.T, what string, d *disk.Disk, want ...byte) {
	t.Helper()
	for k, c := range want {
		if s, e := d.Read(k); s != full(c) || e != api.OK {
			t.Errorf("%s: sector %d: %q, %v, not %q", what, k, s, e, c)
		}
	}
}

// sure fails, unless these bytes are sure, over and over, from sector 0 on.
func sure(t *testing.T, what string, d *disk.Disk, want ...byte) {
	t.Helper()
	var all string
	for _, c := range want {
		all += full(c)
	}
	if got := d.Sure(); got != all {
		t.Errorf("%s: %q is sure, not %q", what, got, all)
	}
}

// P4.1: a disk has from 1 to 16384 sectors, all 0 at first, nothing loose, no fuse.
func TestNew(t *testing.T) {
	for _, n := range []int{1, 2, 3, 1000, 1<<14 - 1, 1 << 14} {
		d := made(t, n)
		if d.Len() != n || d.Loose() != 0 || d.Sure() != strings.Repeat("\x00", 128*n) {
			t.Errorf("New(%d): %d sectors, %d loose, %d bytes", n, d.Len(), d.Loose(), len(d.Sure()))
		}
		for _, k := range []int{0, n / 2, n - 1} {
			if s, e := d.Read(k); s != zero() || e != api.OK {
				t.Errorf("New(%d): sector %d: %q, %v", n, k, s, e)
			}
		}
	}
	for _, n := range []int{0, -1, -128, 1<<14 + 1, 1 << 15, math.MaxInt, math.MinInt} {
		if d, e := disk.New(n); d != nil || e != api.ErrArg {
			t.Errorf("New(%d): %v, %v", n, d, e)
		}
	}
}

// P4.1: an image has as many bytes as a disk's sectors; they are sure, each at its place.
func TestLoad(t *testing.T) {
	for _, n := range []int{1, 2, 5, 300, 1 << 14} {
		b := make([]byte, 128*n)
		for i := range b {
			b[i] = byte(i*7 + i>>8)
		}
		image := string(b)
		d, e := disk.Load(image)
		if d == nil || e != api.OK {
			t.Fatalf("Load of %d sectors: %v, %v", n, d, e)
		}
		if d.Len() != n || d.Loose() != 0 || d.Sure() != image {
			t.Errorf("Load of %d sectors: %d sectors, %d loose, %d bytes", n, d.Len(), d.Loose(), len(d.Sure()))
		}
		for k := range n {
			if s, e := d.Read(k); s != image[128*k:128*k+128] || e != api.OK {
				t.Errorf("Load of %d sectors: sector %d: %q, %v", n, k, s, e)
			}
		}
		is(t, "Sync", d.Sync(), api.OK)
		is(t, "Crash", d.Crash(), api.OK)
		if d.Sure() != image {
			t.Errorf("Load of %d sectors: other bytes behind a crash", n)
		}
	}
	for _, n := range []int{0, 1, 127, 129, 255, 257, 128*(1<<14) - 1, 128*(1<<14) + 1, 128 * (1<<14 + 1), 128 << 15} {
		if d, e := disk.Load(strings.Repeat("i", n)); d != nil || e != api.ErrArg {
			t.Errorf("Load of %d bytes: %v, %v", n, d, e)
		}
	}
}

// P4.1: what is sure is an image of a disk that is alike, but for what is loose.
func TestLoadSure(t *testing.T) {
	d := made(t, 3)
	d.Write(2, full('s'))
	d.Sync()
	d.Write(0, full('l'))
	again, e := disk.Load(d.Sure())
	if e != api.OK {
		t.Fatal(e)
	}
	reads(t, "loaded", again, 0, 0, 's')
}

// R3, P4.1, P4.2: nil, and a disk that no call made, have ErrNil ahead of all else, or zero values, and do nothing.
func TestNil(t *testing.T) {
	for name, d := range map[string]*disk.Disk{"nil": nil, "not made": new(disk.Disk)} {
		for range 2 {
			is(t, name+": Write", d.Write(0, zero()), api.ErrNil)
			is(t, name+": Write of nothing", d.Write(-1, ""), api.ErrNil)
			is(t, name+": Sync", d.Sync(), api.ErrNil)
			for k := -1; k < 2; k++ {
				if s, e := d.Read(k); s != "" || e != api.ErrNil {
					t.Errorf("%s: Read(%d): %q, %v", name, k, s, e)
				}
			}
			if d.Len() != 0 || d.Loose() != 0 || d.Sure() != "" || d.Copy() != nil {
				t.Errorf("%s: %d, %d, %q, %v", name, d.Len(), d.Loose(), d.Sure(), d.Copy())
			}
			for n := -1; n < 2; n++ {
				is(t, name+": Fuse", d.Fuse(n), api.ErrNil)
			}
			is(t, name+": Crash", d.Crash(), api.ErrNil)
			is(t, name+": Crash(true)", d.Crash(true), api.ErrNil)
		}
	}
}

// P4.2: what was written is read, at once, and is loose till it is synced.
func TestWriteSync(t *testing.T) {
	d := made(t, 3)
	is(t, "Write", d.Write(0, full('a')), api.OK)
	is(t, "Write", d.Write(2, full('b')), api.OK)
	is(t, "Write", d.Write(0, full('c')), api.OK)
	reads(t, "loose", d, 'c', 0, 'b')
	sure(t, "loose", d, 0, 0, 0)
	if d.Loose() != 3 || d.Len() != 3 {
		t.Errorf("%d loose, of %d sectors", d.Loose(), d.Len())
	}
	is(t, "Sync", d.Sync(), api.OK)
	reads(t, "synced", d, 'c', 0, 'b')
	sure(t, "synced", d, 'c', 0, 'b')
	if d.Loose() != 0 {
		t.Errorf("%d loose behind a sync", d.Loose())
	}
	is(t, "Write", d.Write(2, full('d')), api.OK)
	reads(t, "written again", d, 'c', 0, 'd')
	sure(t, "written again", d, 'c', 0, 'b')
	is(t, "Sync", d.Sync(), api.OK)
	is(t, "Sync of nothing", d.Sync(), api.OK)
	sure(t, "synced again", d, 'c', 0, 'd')
}

// P4.2: a write of what there is already is loose as any other one.
func TestWriteSame(t *testing.T) {
	d := made(t, 1)
	d.Write(0, zero())
	d.Write(0, zero())
	if d.Loose() != 2 {
		t.Errorf("%d loose", d.Loose())
	}
}

// P4.2: a sector has each byte just where it was written.
func TestWriteBytes(t *testing.T) {
	var b [128]byte
	for turn := range 256 {
		for i := range b {
			b[i] = byte(2*i + turn)
		}
		d := made(t, 3)
		is(t, "Write", d.Write(1, string(b[:])), api.OK)
		if s, e := d.Read(1); s != string(b[:]) || e != api.OK {
			t.Errorf("%q, %v, not %q", s, e, b)
		}
		is(t, "Sync", d.Sync(), api.OK)
		if s := d.Sure(); s != zero()+string(b[:])+zero() {
			t.Errorf("%q is sure, not %q", s, b)
		}
	}
}

// P4.2: no such sector, or another number of bytes: ErrArg, and nothing is done.
func TestWriteReadArgs(t *testing.T) {
	for _, n := range []int{1, 4, 1 << 14} {
		d := made(t, n)
		for _, k := range []int{-1, -128, n, n + 1, 1 << 20, math.MaxInt, math.MinInt} {
			is(t, "Write", d.Write(k, zero()), api.ErrArg)
			if s, e := d.Read(k); s != "" || e != api.ErrArg {
				t.Errorf("%d sectors: Read(%d): %q, %v", n, k, s, e)
			}
		}
		for _, size := range []int{0, 1, 127, 129, 256, 1000} {
			is(t, "Write", d.Write(n-1, strings.Repeat("w", size)), api.ErrArg)
			is(t, "Write", d.Write(n, strings.Repeat("w", size)), api.ErrArg)
		}
		if d.Loose() != 0 || strings.Trim(d.Sure(), "\x00") != "" {
			t.Errorf("%d sectors: %d loose behind wrong writes", n, d.Loose())
		}
		is(t, "Write of the last one", d.Write(n-1, full('w')), api.OK)
		if s, e := d.Read(n - 1); s != full('w') || e != api.OK {
			t.Errorf("%d sectors: the last one: %q, %v", n, s, e)
		}
	}
}

// P4.3: of whatever writes and syncs just so many are done as the fuse has; then the disk stands still.
func TestFuse(t *testing.T) {
	calls := []func(*disk.Disk) api.Errno{
		func(d *disk.Disk) api.Errno { return d.Write(0, full('a')) },
		func(d *disk.Disk) api.Errno { return d.Sync() },
		func(d *disk.Disk) api.Errno { return d.Sync() },
		func(d *disk.Disk) api.Errno { return d.Write(1, full('b')) },
		func(d *disk.Disk) api.Errno { return d.Write(0, full('c')) },
		func(d *disk.Disk) api.Errno { return d.Sync() },
	}
	for n := range len(calls) + 1 {
		d, same := made(t, 2), made(t, 2)
		is(t, "Fuse", d.Fuse(n), api.OK)
		for i, call := range calls {
			want := api.OK
			if i >= n {
				want = api.ErrDown
			} else {
				is(t, "without a fuse", call(same), api.OK)
			}
			is(t, "a call", call(d), want)
		}
		if n == len(calls) {
			is(t, "one more", d.Sync(), api.ErrDown)
		}
		if d.Loose() != same.Loose() || d.Sure() != same.Sure() {
			t.Errorf("a fuse of %d: %d loose, %q sure; not %d, %q", n, d.Loose(), d.Sure(), same.Loose(), same.Sure())
		}
		is(t, "Crash", d.Crash(true, true, true), api.OK)
		is(t, "Crash", same.Crash(true, true, true), api.OK)
		if d.Sure() != same.Sure() {
			t.Errorf("a fuse of %d: behind a crash %q, not %q", n, d.Sure(), same.Sure())
		}
	}
}

// P4.2: a disk stands still as soon as the last write or sync is done, and then it has ErrDown ahead of ErrArg; what asks nothing of its sectors answers as before.
func TestStandsStill(t *testing.T) {
	d := made(t, 2)
	d.Write(0, full('a'))
	d.Sync()
	is(t, "Fuse", d.Fuse(1), api.OK)
	reads(t, "with a fuse", d, 'a', 0)
	is(t, "the last write", d.Write(1, full('b')), api.OK)
	for range 3 {
		for k := -1; k < 4; k++ {
			if s, e := d.Read(k); s != "" || e != api.ErrDown {
				t.Errorf("Read(%d): %q, %v", k, s, e)
			}
			is(t, "Write", d.Write(k, zero()), api.ErrDown)
			is(t, "Write of nothing", d.Write(k, ""), api.ErrDown)
		}
		is(t, "Sync", d.Sync(), api.ErrDown)
		if d.Len() != 2 || d.Loose() != 1 {
			t.Errorf("%d sectors, %d loose", d.Len(), d.Loose())
		}
		sure(t, "standing still", d, 'a', 0)
	}
	is(t, "Fuse below 0", d.Fuse(-1), api.ErrArg)
	is(t, "Sync", d.Sync(), api.ErrDown)
	is(t, "a new fuse", d.Fuse(1), api.OK)
	reads(t, "with a new fuse", d, 'a', 'b')
	is(t, "Sync", d.Sync(), api.OK)
	is(t, "Sync", d.Sync(), api.ErrDown)
	sure(t, "synced by the new fuse", d, 'a', 'b')
}

// P4.3: ErrArg below 0, and the fuse that there was goes on; a new one stands in place of the old one; 0 stands still at once; the greatest holds long.
func TestFuseAgain(t *testing.T) {
	d := made(t, 1)
	for _, n := range []int{-1, -2, math.MinInt} {
		is(t, "Fuse below 0", d.Fuse(n), api.ErrArg)
		is(t, "Sync", d.Sync(), api.OK)
	}
	is(t, "Fuse(3)", d.Fuse(3), api.OK)
	is(t, "Sync", d.Sync(), api.OK)
	is(t, "Fuse(-1)", d.Fuse(-1), api.ErrArg)
	is(t, "Sync", d.Sync(), api.OK)
	is(t, "Fuse(2)", d.Fuse(2), api.OK)
	is(t, "Sync", d.Sync(), api.OK)
	is(t, "Sync", d.Sync(), api.OK)
	is(t, "Sync", d.Sync(), api.ErrDown)
	is(t, "Fuse(math.MaxInt)", d.Fuse(math.MaxInt), api.OK)
	for range 100 {
		is(t, "Sync", d.Sync(), api.OK)
	}
	is(t, "Fuse(0)", d.Fuse(0), api.OK)
	is(t, "Sync", d.Sync(), api.ErrDown)
	if s, e := d.Read(0); s != "" || e != api.ErrDown {
		t.Errorf("a fuse of 0: %q, %v", s, e)
	}
}

// P4.2, P4.3: only writes and syncs that are done count.
func TestFuseCounts(t *testing.T) {
	d := made(t, 2)
	is(t, "Fuse", d.Fuse(2), api.OK)
	for range 5 {
		d.Read(0)
		d.Read(9)
		is(t, "Write beyond", d.Write(2, zero()), api.ErrArg)
		is(t, "Write ahead", d.Write(-1, zero()), api.ErrArg)
		is(t, "Write of less", d.Write(0, "w"), api.ErrArg)
		d.Len()
		d.Loose()
		d.Sure()
		c := d.Copy()
		c.Sync()
	}
	is(t, "Write", d.Write(0, zero()), api.OK)
	is(t, "Sync", d.Sync(), api.OK)
	is(t, "Sync", d.Sync(), api.ErrDown)
}

// P4.3: each way of keeping some of some writes, told by fewer, as many, and more than these; behind it nothing is loose.
func TestCrash(t *testing.T) {
	writes := []struct {
		k int
		c byte
	}{{0, 'a'}, {1, 'b'}, {0, 'c'}, {2, 'd'}, {1, 'e'}}
	for count := range 8 {
		for bits := range 1 << count {
			d := made(t, 3)
			d.Write(1, full('s'))
			d.Sync()
			want := []byte{0, 's', 0}
			keep := make([]bool, count)
			for i := range keep {
				keep[i] = bits>>i&1 == 1
			}
			for i, w := range writes {
				d.Write(w.k, full(w.c))
				if i < count && keep[i] {
					want[w.k] = w.c
				}
			}
			given := slices.Clone(keep)
			is(t, "Crash", d.Crash(keep...), api.OK)
			if !slices.Equal(keep, given) {
				t.Errorf("keep %v has become %v", given, keep)
			}
			reads(t, "crashed", d, want...)
			sure(t, "crashed", d, want...)
			if d.Loose() != 0 || d.Len() != 3 {
				t.Errorf("%d loose, of %d sectors", d.Loose(), d.Len())
			}
			is(t, "Crash again", d.Crash(true, true, true, true, true), api.OK)
			sure(t, "crashed again", d, want...)
		}
	}
}

// P4.3: a crash takes the fuse, whether it has burnt down or not.
func TestCrashFuse(t *testing.T) {
	for n := range 3 {
		d := made(t, 1)
		d.Write(0, full('a'))
		is(t, "Fuse", d.Fuse(n), api.OK)
		for range n {
			is(t, "Write", d.Write(0, full('b')), api.OK)
		}
		is(t, "Crash", d.Crash(true), api.OK)
		reads(t, "crashed", d, 'a')
		for range 5 {
			is(t, "Write", d.Write(0, full('c')), api.OK)
			is(t, "Sync", d.Sync(), api.OK)
		}
	}
	d := made(t, 1)
	d.Fuse(2)
	d.Crash()
	for range 5 {
		is(t, "Sync", d.Sync(), api.OK)
	}
}

// P4.3: of the loose writes alone, so those that were synced ahead count for nothing.
func TestCrashBehindSync(t *testing.T) {
	d := made(t, 2)
	d.Write(0, full('a'))
	d.Sync()
	d.Write(0, full('b'))
	d.Write(1, full('c'))
	is(t, "Crash", d.Crash(false, true), api.OK)
	reads(t, "crashed", d, 'a', 'c')
	d.Write(1, full('d'))
	d.Write(0, full('e'))
	is(t, "Crash", d.Crash(true), api.OK)
	reads(t, "crashed again", d, 'a', 'd')
}

// P4.4: a sector never has a mix of two writes; what was synced, and not written again, is there behind any crash.
func TestWhole(t *testing.T) {
	r := rand.New(rand.NewPCG(4, 4))
	for range 300 {
		d := made(t, 8)
		for k := range 8 {
			d.Write(k, full(byte(k)))
		}
		d.Sync()
		for range r.IntN(20) {
			d.Write(r.IntN(6), full(byte(r.IntN(256))))
		}
		var keep []bool
		for range r.IntN(20) {
			keep = append(keep, r.IntN(2) == 1)
		}
		d.Crash(keep...)
		for k := range 8 {
			s, e := d.Read(k)
			if e != api.OK || len(s) != 128 || s != full(s[0]) {
				t.Errorf("sector %d: %q, %v", k, s, e)
			}
			if k >= 6 && s != full(byte(k)) {
				t.Errorf("sector %d, which was synced alone: %q", k, s)
			}
		}
	}
}

// P4.1: a copy has what is sure, what is loose, and the fuse; what is done to one is not to the other.
func TestCopy(t *testing.T) {
	d := made(t, 2)
	d.Write(0, full('a'))
	d.Sync()
	d.Write(0, full('b'))
	d.Write(1, full('c'))
	d.Fuse(2)
	c := d.Copy()
	if c == nil || c == d {
		t.Fatal("no copy")
	}
	if c.Len() != 2 || c.Loose() != 2 {
		t.Errorf("the copy: %d sectors, %d loose", c.Len(), c.Loose())
	}
	sure(t, "the copy", c, 'a', 0)
	reads(t, "the copy", c, 'b', 'c')

	is(t, "Write", d.Write(1, full('x')), api.OK)
	reads(t, "the copy, when the first is written", c, 'b', 'c')
	is(t, "Write of the copy", c.Write(0, full('y')), api.OK)
	reads(t, "the first, when the copy is written", d, 'b', 'x')
	is(t, "Sync", d.Sync(), api.OK)
	sure(t, "the first, synced", d, 'b', 'x')
	sure(t, "the copy, when the first is synced", c, 'a', 0)
	is(t, "Sync beyond", d.Sync(), api.ErrDown)
	reads(t, "the copy, when the first stands still", c, 'y', 'c')
	is(t, "Crash of the first", d.Crash(), api.OK)
	is(t, "Sync of the copy", c.Sync(), api.OK)
	is(t, "Sync of the copy beyond", c.Sync(), api.ErrDown)
	sure(t, "the copy, synced", c, 'y', 'c')
	sure(t, "the first, when the copy is synced", d, 'b', 'x')
}

// P4.1: a copy of a disk that stands still does so, and a crash of it wakes no other one.
func TestCopyStill(t *testing.T) {
	d := made(t, 1)
	d.Write(0, full('a'))
	d.Fuse(0)
	c := d.Copy()
	is(t, "Sync of the copy", c.Sync(), api.ErrDown)
	is(t, "Crash of the copy", c.Crash(true), api.OK)
	reads(t, "the copy", c, 'a')
	is(t, "Sync", d.Sync(), api.ErrDown)
	if d.Loose() != 1 {
		t.Errorf("%d loose", d.Loose())
	}
	sure(t, "the first", d, 0)
}

// P4.2, P4.3: many loose writes on the greatest disk, read, crashed and synced.
func TestMany(t *testing.T) {
	const n = 1 << 14
	d := made(t, n)
	for i := range 3 * n {
		is(t, "Write", d.Write(i%n, full(byte(i/n*50+i%50))), api.OK)
	}
	if d.Loose() != 3*n {
		t.Errorf("%d loose", d.Loose())
	}
	for k := range n {
		if s, _ := d.Read(k); s != full(byte((k+2*n)/n*50+(k+2*n)%50)) {
			t.Fatalf("sector %d: %q", k, s)
		}
	}
	c := d.Copy()
	is(t, "Sync", d.Sync(), api.OK)
	keep := make([]bool, 2*n)
	for i := range keep {
		keep[i] = i < n || i%3 == 0
	}
	is(t, "Crash", c.Crash(keep...), api.OK)
	for k := range n {
		if s, _ := d.Read(k); s != full(byte(100+(k+2*n)%50)) {
			t.Fatalf("synced: sector %d: %q", k, s)
		}
		want := byte(k % 50)
		if (k+n)%3 == 0 {
			want = byte(50 + (k+n)%50)
		}
		if s, _ := c.Read(k); s != full(want) {
			t.Fatalf("crashed: sector %d: %q, not %d", k, s, want)
		}
	}
}

// R5: what is read is no piece of what was written or loaded.
func TestNewMemory(t *testing.T) {
	s := full('m')
	d, _ := disk.Load(s)
	if got, _ := d.Read(0); unsafe.StringData(got) == unsafe.StringData(s) {
		t.Error("Read of a loaded disk is the image")
	}
	if unsafe.StringData(d.Sure()) == unsafe.StringData(s) {
		t.Error("Sure of a loaded disk is the image")
	}
	d.Write(0, s)
	if got, _ := d.Read(0); unsafe.StringData(got) == unsafe.StringData(s) {
		t.Error("Read is what was written")
	}
	before, all := d.Sure(), d.Sure()
	d.Write(0, full('n'))
	d.Sync()
	if before != s || all != s {
		t.Error("what was sure has become another text")
	}
}
