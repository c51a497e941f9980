package log_test

import (
	"math"
	"strings"
	"testing"
	"unsafe"

	"pentimento/api"
	"pentimento/disk"
	"pentimento/log"
)

// made is a disk of so many sectors.
func made(t *testing.T, sectors int) *disk.Disk {
	t.Helper()
	d, e := disk.New(sectors)
	if d == nil || e != api.OK {
		t.Fatalf("New(%d): %v, %v", sectors, d, e)
	}
	return d
}

// begun is a new log.
func begun(t *testing.T, d *disk.Disk, at, n int, life uint64) *log.Log {
	t.Helper()
	l, e := log.New(d, at, n, life)
	if l == nil || e != api.OK {
		t.Fatalf("New(%d, %d, %d): %v, %v", at, n, life, l, e)
	}
	return l
}

// is fails, unless e is the error that is wanted.
func is(t *testing.T, what string, e, want api.Errno) {
	t.Helper()
	if e != want {
		t.Errorf("%s: %v, not %v", what, e, want)
	}
}

// text is n bytes, of which each ten are others than those ahead.
func text(n int) string {
	b := make([]byte, n)
	for i := range b {
		b[i] = byte('a' + i/10%26)
	}
	return string(b)
}

// row is the frames of texts, one behind the other.
func row(lsn uint64, texts ...string) string {
	s := ""
	for _, x := range texts {
		s += plainFrame(lsn+uint64(len(s)), x)
	}
	return s
}

// appends fails, unless s comes at that LSN.
func appends(t *testing.T, l *log.Log, s string, want uint64) {
	t.Helper()
	next := want + uint64(14+len(s))
	if lsn, e := l.Append(s); lsn != want || e != api.OK || l.Next() != next {
		t.Fatalf("Append of %d bytes: %d, %v, next %d, not %d, next %d", len(s), lsn, e, l.Next(), want, next)
	}
}

// refuses fails, unless s isn't appended, and nothing is changed.
func refuses(t *testing.T, l *log.Log, s string, no api.Errno) {
	t.Helper()
	next, room := l.Next(), l.Room()
	if lsn, e := l.Append(s); lsn != 0 || e != no || l.Next() != next || l.Room() != room {
		t.Errorf("Append of %d bytes: %d, %v, next %d, not %v, next %d", len(s), lsn, e, l.Next(), no, next)
	}
}

// reads fails, unless that record's frame begins there.
func reads(t *testing.T, l *log.Log, lsn uint64, want string) {
	t.Helper()
	next := lsn + uint64(14+len(want))
	if s, behind, e := l.Read(lsn); s != want || behind != next || e != api.OK {
		t.Errorf("Read(%d): %q, %d, %v, not %q, %d", lsn, s, behind, e, want, next)
	}
}

// none fails, unless no frame begins there.
func none(t *testing.T, l *log.Log, lsn uint64) {
	t.Helper()
	if s, next, e := l.Read(lsn); s != "" || next != 0 || e != api.ErrNone {
		t.Errorf("Read(%d): %q, %d, %v", lsn, s, next, e)
	}
}

// has fails, unless just those records are in the log, from its First on.
func has(t *testing.T, what string, l *log.Log, texts ...string) {
	t.Helper()
	at := map[uint64]string{}
	next := l.First()
	for _, s := range texts {
		at[next] = s
		next += uint64(14 + len(s))
	}
	if l.Next() != next {
		t.Errorf("%s: next %d, not %d", what, l.Next(), next)
	}
	for lsn := l.First() - min(l.First(), 300); lsn < next+300; lsn++ {
		if s, is := at[lsn]; is {
			reads(t, l, lsn, s)
		} else {
			none(t, l, lsn)
		}
	}
}

// told fails, unless First, Next, Forced, Reserved and Room are those.
func told(t *testing.T, what string, l *log.Log, first, next, forced uint64, reserved, room int) {
	t.Helper()
	if l.First() != first || l.Next() != next || l.Forced() != forced || l.Reserved() != reserved || l.Room() != room {
		t.Errorf("%s: first %d, next %d, forced %d, reserved %d, room %d, not %d, %d, %d, %d, %d", what,
			l.First(), l.Next(), l.Forced(), l.Reserved(), l.Room(), first, next, forced, reserved, room)
	}
}

// opens fails, unless a log is opened that has just those records from first on.
func opens(t *testing.T, what string, d *disk.Disk, at, n int, life, first uint64, texts ...string) *log.Log {
	t.Helper()
	l, e := log.Open(d, at, n, life, first)
	if l == nil || e != api.OK {
		t.Fatalf("%s: Open: %v, %v", what, l, e)
	}
	next := first + uint64(len(row(first, texts...)))
	told(t, what, l, first, next, next, 0, n*110-int(next-first/110*110))
	has(t, what, l, texts...)
	return l
}

// closed fails, unless no log is opened, for that reason.
func closed(t *testing.T, what string, d *disk.Disk, at, n int, life, first uint64, no api.Errno) {
	t.Helper()
	if l, e := log.Open(d, at, n, life, first); l != nil || e != no {
		t.Errorf("%s: Open: %v, %v, not %v", what, l, e, no)
	}
}

// sure fails, unless the disk's sectors are those for sure.
func sure(t *testing.T, what string, d *disk.Disk, want string) {
	t.Helper()
	s := d.Sure()
	if len(s) != len(want) {
		t.Fatalf("%s: %d bytes are sure, not %d", what, len(s), len(want))
	}
	for i := 0; i < len(s); i += 128 {
		if s[i:i+128] != want[i:i+128] {
			t.Errorf("%s: of sector %d %q is sure, not %q", what, i/128, s[i:i+128], want[i:i+128])
		}
	}
}

// alike fails, unless both disks have the same, sure and loose, and stand still alike.
func alike(t *testing.T, what string, a, b *disk.Disk) {
	t.Helper()
	sure(t, what, a, b.Sure())
	if a.Loose() != b.Loose() {
		t.Errorf("%s: %d loose, not %d", what, a.Loose(), b.Loose())
	}
	sameReads(t, what, a, b)
	// How far the fuses have burnt is told by further syncs.
	a, b = a.Copy(), b.Copy()
	for range 9 {
		is(t, what+": a further sync", a.Sync(), b.Sync())
	}
}

// The chapter's example.
func TestExample(t *testing.T) {
	d := made(t, 8)
	l := begun(t, d, 1, 5, 1)
	appends(t, l, "a", 110)
	is(t, "Force", l.Force(110), api.OK)
	told(t, "forced", l, 110, 125, 125, 0, 5*110-15)
}

// P13.1: an empty log; nothing is written, also on a disk that stands still, or that has another log.
func TestNewEmpty(t *testing.T) {
	for _, n := range []int{4, 5, 96, 4095, 4096} {
		for _, at := range []int{0, 1, 7} {
			d := made(t, at+n+1)
			d.Write(at, strings.Repeat("x", 128))
			d.Write(at+1, plainSector(1, 1, row(110, text(10))))
			d.Sync()
			d.Write(at+2, strings.Repeat("y", 128))
			d.Fuse(0)
			was := d.Copy()
			for _, life := range []uint64{1, 2, math.MaxUint64} {
				l := begun(t, d, at, n, life)
				told(t, "new", l, 110, 110, 110, 0, n*110)
				has(t, "new", l)
				is(t, "Force", l.Force(110), api.OK)
			}
			alike(t, "New", d, was)
		}
	}
}

// P13.1: which places, sizes and lives may be.
func TestArgs(t *testing.T) {
	for _, c := range []struct {
		sectors, at, n int
		life           uint64
		no             api.Errno
	}{
		{4, 0, 4, 1, api.OK},
		{4, 0, 4, math.MaxUint64, api.OK},
		{4, 0, 4, 0, api.ErrArg},
		{4, 0, 3, 1, api.ErrArg},
		{4, 0, 0, 1, api.ErrArg},
		{4, 0, -1, 1, api.ErrArg},
		{4, 0, 5, 1, api.ErrArg},
		{4, 1, 4, 1, api.ErrArg},
		{4, -1, 4, 1, api.ErrArg},
		{4, -4, 4, 1, api.ErrArg},
		{5, 1, 4, 1, api.OK},
		{5, -1, 4, 1, api.ErrArg},
		{5, 2, 4, 1, api.ErrArg},
		{3, 0, 4, 1, api.ErrArg},
		{1, 0, 4, 1, api.ErrArg},
		{4, math.MaxInt, 4, 1, api.ErrArg},
		{4, math.MaxInt - 3, 4, 1, api.ErrArg},
		{4, math.MinInt, 4, 1, api.ErrArg},
		{4, 0, math.MaxInt, 1, api.ErrArg},
		{4, 0, math.MinInt, 1, api.ErrArg},
		{4, math.MaxInt, math.MaxInt, 1, api.ErrArg},
		{4, 8, math.MinInt, 1, api.ErrArg},
		{4096, 0, 4096, 1, api.OK},
		{4097, 1, 4096, 1, api.OK},
		{4096, 1, 4096, 1, api.ErrArg},
		{4097, 0, 4097, 1, api.ErrArg},
		{16384, 0, 16384, 1, api.ErrArg},
		{16384, 12288, 4096, 1, api.OK},
		{16384, 12289, 4096, 1, api.ErrArg},
		{16384, 16380, 4, 1, api.OK},
	} {
		d := made(t, c.sectors)
		l, e := log.New(d, c.at, c.n, c.life)
		if e != c.no || (l != nil) != (e == api.OK) {
			t.Errorf("New(%d, %d, %d) of %d sectors: %v, %v, not %v", c.at, c.n, c.life, c.sectors, l, e, c.no)
		}
		l, e = log.Open(d, c.at, c.n, c.life, 110)
		if e != c.no || (l != nil) != (e == api.OK) {
			t.Errorf("Open(%d, %d, %d) of %d sectors: %v, %v, not %v", c.at, c.n, c.life, c.sectors, l, e, c.no)
		}
	}
}

// P13.1: from which LSNs on a log may be opened: on an empty disk from stretches' first ones.
func TestOpenFirst(t *testing.T) {
	const top = uint64(1) << 62
	for _, c := range []struct {
		first uint64
		no    api.Errno
	}{
		{0, api.ErrArg},
		{1, api.ErrArg},
		{109, api.ErrArg},
		{110, api.OK},
		{111, api.ErrCorrupt},
		{219, api.ErrCorrupt},
		{220, api.OK},
		{221, api.ErrCorrupt},
		{top / 110 * 110, api.OK},
		{top - 1, api.ErrCorrupt},
		{top, api.ErrCorrupt},
		{top + 1, api.ErrArg},
		{top + 110, api.ErrArg},
		{(top/110 + 1) * 110, api.ErrArg},
		{math.MaxUint64, api.ErrArg},
		{math.MaxUint64 / 110 * 110, api.ErrArg},
	} {
		d := made(t, 6)
		was := d.Copy()
		if c.no != api.OK {
			closed(t, "empty", d, 1, 5, 1, c.first, c.no)
		} else {
			l := opens(t, "empty", d, 1, 5, 1, c.first)
			appends(t, l, "abc", c.first)
		}
		alike(t, "Open", d, was)
	}
}

// P13.1: the last LSN from which on a log may be opened; and it goes on from there.
func TestOpenTop(t *testing.T) {
	const top = uint64(1) << 62
	k, ahead := top/110, int(top%110)
	d := made(t, 5)
	d.Write(int(k%5), plainSector(k, 1, text(ahead)))
	l := opens(t, "top", d, 0, 5, 2, top)
	appends(t, l, text(300), top)
	is(t, "Force", l.Force(top), api.OK)
	opens(t, "again", d, 0, 5, 3, top, text(300))
	closed(t, "one more", d, 0, 5, 3, top+1, api.ErrArg)
}

// P13.1, P13.2, R3: no disk is ErrNil, ahead of all else.
func TestNoDisk(t *testing.T) {
	for name, d := range map[string]*disk.Disk{"nil": nil, "not made": new(disk.Disk)} {
		for _, n := range []int{-1, 0, 4, 5000} {
			for _, life := range []uint64{0, 1} {
				if l, e := log.New(d, n, n, life); l != nil || e != api.ErrNil {
					t.Errorf("%s: New: %v, %v", name, l, e)
				}
				for _, first := range []uint64{0, 110, math.MaxUint64} {
					closed(t, name, d, 0, n, life, first, api.ErrNil)
				}
			}
		}
	}
}

// P13.2 to P13.4, R3: no log has ErrNil, ahead of all else, or zeros.
func TestNil(t *testing.T) {
	for name, l := range map[string]*log.Log{"nil": nil, "not made": new(log.Log)} {
		for _, s := range []string{"", "a", text(4097)} {
			if lsn, e := l.Append(s); lsn != 0 || e != api.ErrNil {
				t.Errorf("%s: Append: %d, %v", name, lsn, e)
			}
		}
		for _, lsn := range []uint64{0, 110, math.MaxUint64} {
			is(t, name, l.Force(lsn), api.ErrNil)
			is(t, name, l.Keep(lsn), api.ErrNil)
			if s, next, e := l.Read(lsn); s != "" || next != 0 || e != api.ErrNil {
				t.Errorf("%s: Read: %q, %d, %v", name, s, next, e)
			}
		}
		for _, n := range []int{math.MinInt, -1, 0, 1, math.MaxInt} {
			is(t, name, l.Reserve(n), api.ErrNil)
		}
		told(t, name, l, 0, 0, 0, 0, 0)
	}
}

// P13.1: a disk that stands still is told, behind what may not be, ahead of what is corrupt.
func TestOpenStill(t *testing.T) {
	d := made(t, 5)
	d.Fuse(0)
	closed(t, "still", d, 0, 5, 1, 110, api.ErrDown)
	closed(t, "still, corrupt", d, 0, 5, 1, 111, api.ErrDown)
	closed(t, "still, no life", d, 0, 5, 0, 110, api.ErrArg)
	closed(t, "still, nowhere", d, 1, 5, 1, 110, api.ErrArg)
	closed(t, "still, ahead of all", d, 0, 5, 1, 109, api.ErrArg)
	closed(t, "still, beyond all", d, 0, 5, 1, 1<<62+1, api.ErrArg)
}

// P13.2: how many bytes a record may have.
func TestAppendLong(t *testing.T) {
	l := begun(t, made(t, 400), 0, 400, 1)
	refuses(t, l, "", api.ErrArg)
	refuses(t, l, text(4097), api.ErrArg)
	refuses(t, l, text(100000), api.ErrArg)
	appends(t, l, "\x00", 110)
	appends(t, l, text(4096), 125)
	appends(t, l, text(4095), 125+4110)
	has(t, "long", l, "\x00", text(4096), text(4095))
	told(t, "long", l, 110, 125+4110+4109, 110, 0, 44000-15-4110-4109)

	full := begun(t, made(t, 4), 0, 4, 1)
	refuses(t, full, text(4097), api.ErrArg)
	refuses(t, full, text(4096), api.ErrFull)
	refuses(t, full, "", api.ErrArg)
}

// P13.2: a frame may have all of the room, and not a byte more.
func TestAppendFull(t *testing.T) {
	for _, c := range []struct{ n, reserved int }{{4, 0}, {5, 0}, {5, 1}, {5, 100}, {37, 0}, {4, 425}} {
		d := made(t, c.n)
		l := begun(t, d, 0, c.n, 1)
		is(t, "Reserve", l.Reserve(c.reserved), api.OK)
		room := c.n*110 - c.reserved
		told(t, "reserved", l, 110, 110, 110, c.reserved, room)
		refuses(t, l, text(room-14+1), api.ErrFull)
		appends(t, l, text(room-14), 110)
		told(t, "full", l, 110, 110+uint64(room), 110, c.reserved, 0)
		refuses(t, l, "a", api.ErrFull)
		refuses(t, l, "", api.ErrArg)
		is(t, "Force", l.Force(l.Next()), api.OK)
		told(t, "forced", l, 110, 110+uint64(room), 110+uint64(room), c.reserved, 0)
		refuses(t, l, "a", api.ErrFull)
		opens(t, "again", d, 0, c.n, 2, 110, text(room-14))
	}
}

// P13.2, P13.4: room comes back by whole stretches that are not kept, and by what is given back.
func TestRoom(t *testing.T) {
	l := begun(t, made(t, 4), 0, 4, 1)
	appends(t, l, text(86), 110) // 100 bytes
	appends(t, l, text(6), 210)  // 20, over the stretch's end
	appends(t, l, text(76), 230) // 90, up to 320
	appends(t, l, text(6), 320)  // 20, over the next one's end
	is(t, "Force", l.Force(110), api.OK)
	told(t, "four", l, 110, 340, 340, 0, 440-230)
	is(t, "Keep", l.Keep(210), api.OK)
	told(t, "in the same stretch", l, 210, 340, 340, 0, 440-230)
	is(t, "Keep", l.Keep(230), api.OK)
	told(t, "in the next stretch", l, 230, 340, 340, 0, 440-120)
	is(t, "Keep", l.Keep(320), api.OK)
	told(t, "in the next stretch still", l, 320, 340, 340, 0, 440-120)
	is(t, "Reserve", l.Reserve(300), api.OK)
	told(t, "reserved", l, 320, 340, 340, 300, 20)
	refuses(t, l, text(7), api.ErrFull)
	is(t, "Keep", l.Keep(340), api.OK)
	told(t, "all gone", l, 340, 340, 340, 300, 440-10-300)
	is(t, "Reserve", l.Reserve(-300), api.OK)
	appends(t, l, text(430-14), 340)
	told(t, "full", l, 340, 770, 340, 0, 0)
}

// P13.2: what may be reserved, and given back, and which error is told first.
func TestReserve(t *testing.T) {
	l := begun(t, made(t, 4), 0, 4, 1)
	for _, c := range []struct {
		n        int
		no       api.Errno
		reserved int
	}{
		{0, api.OK, 0},
		{-1, api.ErrArg, 0},
		{math.MinInt, api.ErrArg, 0},
		{441, api.ErrFull, 0},
		{math.MaxInt, api.ErrFull, 0},
		{440, api.OK, 440},
		{1, api.ErrFull, 440},
		{0, api.OK, 440},
		{-441, api.ErrArg, 440},
		{math.MinInt, api.ErrArg, 440},
		{math.MaxInt, api.ErrFull, 440},
		{-440, api.OK, 0},
		{10, api.OK, 10},
		{431, api.ErrFull, 10},
		{430, api.OK, 440},
		{-1, api.OK, 439},
		{2, api.ErrFull, 439},
		{-439, api.OK, 0},
	} {
		is(t, "Reserve", l.Reserve(c.n), c.no)
		told(t, "Reserve", l, 110, 110, 110, c.reserved, 440-c.reserved)
	}
}

// P13.2: records are read where they begin, forced or not, and nowhere else; not ahead of First.
func TestRead(t *testing.T) {
	l := begun(t, made(t, 20), 0, 20, 1)
	texts := []string{"one", "\x00", text(300), plainFrame(441, "within"), "two"}
	at := uint64(110)
	var lsns []uint64
	for _, s := range texts {
		lsns = append(lsns, at)
		appends(t, l, s, at)
		at += uint64(14 + len(s))
	}
	has(t, "not forced", l, texts...)
	is(t, "Force", l.Force(110), api.OK)
	has(t, "forced", l, texts...)
	for i := range texts {
		is(t, "Keep", l.Keep(lsns[i]), api.OK)
		has(t, "kept", l, texts[i:]...)
	}
	is(t, "Keep", l.Keep(at), api.OK)
	has(t, "none kept", l)
	for _, lsn := range []uint64{0, 1, math.MaxUint64, 1 << 62} {
		none(t, l, lsn)
	}
}

// P13.3: what may be the first LSN that is kept: a frame's, from First to Forced, or Next, if all is forced.
func TestKeep(t *testing.T) {
	l := begun(t, made(t, 9), 0, 9, 1)
	is(t, "an empty log's Next", l.Keep(110), api.OK)
	is(t, "ahead of it", l.Keep(109), api.ErrArg)
	is(t, "behind it", l.Keep(111), api.ErrArg)
	for i, s := range []string{"one", "two", "three", "four"} {
		appends(t, l, s, []uint64{110, 127, 144, 163}[i])
		if i == 1 {
			is(t, "Force", l.Force(110), api.OK)
		}
	}
	// One and two are forced: 110, 127; three at 144 and four at 163 are not; Next is 181.
	refused := func(what string, lsns ...uint64) {
		t.Helper()
		was := [...]any{l.First(), l.Next(), l.Forced(), l.Room()}
		for _, lsn := range lsns {
			is(t, what, l.Keep(lsn), api.ErrArg)
		}
		if was != [...]any{l.First(), l.Next(), l.Forced(), l.Room()} {
			t.Errorf("%s: changed", what)
		}
	}
	refused("no frame's", 0, 1, 109, 111, 126, 128, 143, 145, 162, math.MaxUint64, 1<<63)
	refused("not forced", 163, 181, 182)
	is(t, "Forced, where a frame begins", l.Keep(144), api.OK)
	has(t, "not forced, kept", l, "three", "four")
	refused("gone", 110, 127)
	is(t, "First", l.Keep(144), api.OK)
	is(t, "Force", l.Force(144), api.OK)
	refused("beyond", 182)
	is(t, "forced", l.Keep(163), api.OK)
	is(t, "Next", l.Keep(181), api.OK)
	refused("gone", 163, 144, 110)
	is(t, "First and Next", l.Keep(181), api.OK)
	has(t, "nothing kept", l)
	told(t, "nothing kept", l, 181, 181, 181, 0, 990-71)
}

// P13.3: the bytes of sectors, written out.
func TestBytes(t *testing.T) {
	d := made(t, 7)
	l := begun(t, d, 2, 4, 0x0102030405060708)
	appends(t, l, "a", 110)
	is(t, "Force", l.Force(110), api.OK)
	zeros := func(n int) string { return strings.Repeat("\x00", n) }
	frame := "\x00\x01" + "\x00\x00\x00\x00\x00\x00\x00\x6e" + frameSum + "a"
	s := "\x00\x00\x00\x00\x00\x00\x00\x6e" + "\x01\x02\x03\x04\x05\x06\x07\x08" + "\x00\x0f" + frame + zeros(128-18-15)
	// The stretch 1 is that of the sector 2 + 1 % 4.
	sure(t, "a frame", d, zeros(3*128)+s+zeros(3*128))
	appends(t, l, text(200), 125)
	is(t, "Force", l.Force(125), api.OK)
	all := frame + plainFrame(125, text(200))
	image := zeros(3*128) +
		"\x00\x00\x00\x00\x00\x00\x00\x6e" + "\x01\x02\x03\x04\x05\x06\x07\x08" + "\x00\x6e" + all[:110] +
		"\x00\x00\x00\x00\x00\x00\x00\xdc" + "\x01\x02\x03\x04\x05\x06\x07\x08" + "\x00\x6e" + all[110:220] +
		"\x00\x00\x00\x00\x00\x00\x01\x4a" + "\x01\x02\x03\x04\x05\x06\x07\x08" + "\x00\x09" + all[220:] + zeros(110-9) +
		zeros(128)
	// The stretch 3 is that of the sector 2 + 3 % 4; 4, that of the sector 2, has none yet.
	sure(t, "further stretches", d, image)
	appends(t, l, text(100), 339)
	is(t, "Force", l.Force(339), api.OK)
	all += plainFrame(339, text(100))
	image = zeros(2*128) + plainSector(4, 0x0102030405060708, all[330:]) + image[3*128:5*128] + plainSector(3, 0x0102030405060708, all[220:330]) + zeros(128)
	sure(t, "over the ring's end", d, image)
	if d.Loose() != 0 {
		t.Errorf("%d loose", d.Loose())
	}
}

// frameSum is the sum of the frame of a at 110.
const frameSum = "\xb0\x6a\x6d\x86"

// P13.3: when it is forced: all at once, but nothing if that LSN is on the disk already; not beyond Next.
func TestForceWhen(t *testing.T) {
	for _, c := range []struct {
		lsn uint64
		no  api.Errno
		is  bool
	}{
		{0, api.OK, false},
		{110, api.OK, false},
		{126, api.OK, false},
		{127, api.OK, true},
		{128, api.OK, true},
		{143, api.OK, true},
		{144, api.OK, true},
		{161, api.OK, true},
		{162, api.ErrArg, false},
		{1 << 63, api.ErrArg, false},
		{math.MaxUint64, api.ErrArg, false},
	} {
		d := made(t, 4)
		l := begun(t, d, 0, 4, 1)
		appends(t, l, "one", 110)
		is(t, "Force", l.Force(110), api.OK)
		appends(t, l, "two", 127)
		appends(t, l, "six", 144)
		was := d.Copy()
		is(t, "Force", l.Force(c.lsn), c.no)
		if !c.is {
			told(t, "not forced", l, 110, 161, 127, 0, 440-51)
			alike(t, "not forced", d, was)
			continue
		}
		told(t, "forced", l, 110, 161, 161, 0, 440-51)
		was.Write(1, plainSector(1, 1, row(110, "one", "two", "six")))
		was.Sync()
		alike(t, "forced", d, was)
		for _, lsn := range []uint64{0, 110, 160, 161} {
			was.Fuse(0)
			d.Fuse(0)
			is(t, "again", l.Force(lsn), api.OK)
		}
		is(t, "again, beyond", l.Force(162), api.ErrArg)
	}
}

// P13.3: which sectors are written, in which order, and that they are synced: a fuse and a crash tell.
func TestForceSectors(t *testing.T) {
	for _, c := range []struct {
		what    string
		ahead   int // bytes that were forced ahead, from 110 on
		more    int // bytes that are forced then
		sectors []int
	}{
		{"nothing ahead, within a stretch", 0, 50, []int{1}},
		{"nothing ahead, a stretch", 0, 110, []int{1}},
		{"nothing ahead, a stretch and a byte", 0, 111, []int{1, 2}},
		{"within a stretch", 30, 40, []int{1}},
		{"up to its end", 30, 80, []int{1}},
		{"beyond its end", 30, 81, []int{1, 2}},
		{"up to the next one's end", 30, 190, []int{1, 2}},
		{"far beyond", 30, 300, []int{1, 2, 3}},
		{"from a stretch's beginning on", 110, 20, []int{2}},
		{"a whole stretch", 110, 110, []int{2}},
		{"over the ring's end", 330, 111, []int{4, 0}},
		{"over the ring's end, within stretches", 350, 190, []int{4, 0}},
		{"at the ring's beginning", 440, 110, []int{0}},
		{"all", 0, 550, []int{1, 2, 3, 4, 0}},
	} {
		for fuse := range len(c.sectors) + 3 {
			d := made(t, 6)
			l := begun(t, d, 0, 5, 1)
			all := ""
			if c.ahead > 0 {
				all = row(110, text(c.ahead-14))
				appends(t, l, text(c.ahead-14), 110)
				is(t, c.what, l.Force(110), api.OK)
			}
			f := d.Copy()
			lsn := l.Next()
			appends(t, l, text(c.more-14), lsn)
			all += row(lsn, text(c.more-14))
			d.Fuse(fuse)
			f.Fuse(fuse)
			e := l.Force(lsn)
			for i, k := range c.sectors {
				begin := (lsn/110 + uint64(i)) * 110
				end := min(begin+110, l.Next())
				f.Write(k, plainSector(begin/110, 1, all[begin-110:end-110]))
			}
			want := f.Sync()
			is(t, c.what, e, want)
			alike(t, c.what, d, f)
			forced := lsn
			if want == api.OK {
				forced = l.Next()
			}
			told(t, c.what, l, 110, lsn+uint64(c.more), forced, 0, 550-c.ahead-c.more)
		}
	}
}

// P13.3: what could not be forced is forced later, from the same sector on.
func TestForceAgain(t *testing.T) {
	for fuse := range 4 {
		d := made(t, 4)
		l := begun(t, d, 0, 4, 1)
		appends(t, l, text(20), 110)
		is(t, "Force", l.Force(110), api.OK)
		appends(t, l, text(200), 144)
		d.Fuse(fuse)
		is(t, "still", l.Force(144), api.ErrDown)
		is(t, "still", l.Force(144), api.ErrDown)
		is(t, "still, ahead", l.Force(143), api.OK)
		is(t, "still, beyond", l.Force(359), api.ErrArg)
		told(t, "still", l, 110, 358, 144, 0, 440-248)
		d.Crash()
		is(t, "Force", l.Force(144), api.OK)
		told(t, "forced", l, 110, 358, 358, 0, 440-248)
		opens(t, "again", d, 0, 4, 2, 110, text(20), text(200))
	}
}

// P13.1: what the sectors' heads tell is what the stream ends by.
func TestOpenStream(t *testing.T) {
	// Each stretch from 4 on has ten bytes of a frame that began in it, and so on: eight frames of 55 bytes make four stretches.
	texts := make([]string, 8)
	for i := range texts {
		texts[i] = text(41)
	}
	all := row(440, texts...)
	part := func(i int) string { return all[110*i : 110*i+110] }
	for _, c := range []struct {
		what  string
		make  func(put func(i int, s string))
		whole int // how many frames are there
		cut   int // the stretch, from the first one on, that is written again; -1: none
	}{
		{"all", func(put func(int, string)) {}, 8, -1},
		{"another lap's first one", func(put func(int, string)) { put(0, plainSector(8, 5, part(0))) }, 0, -1},
		{"an elder lap's second one", func(put func(int, string)) { put(1, plainSector(1, 5, part(1))) }, 2, -1},
		{"a later lap's third one", func(put func(int, string)) { put(2, plainSector(10, 5, part(2))) }, 4, -1},
		{"an LSN one more", func(put func(int, string)) { put(2, bytesOf(661, 8)+plainSector(6, 5, part(2))[8:]) }, 4, -1},
		{"an LSN of its number alone", func(put func(int, string)) { put(2, bytesOf(6, 8)+plainSector(6, 5, part(2))[8:]) }, 4, -1},
		{"zeros", func(put func(int, string)) { put(1, string(make([]byte, 128))) }, 2, -1},
		{"zeros ahead of all", func(put func(int, string)) { put(0, string(make([]byte, 128))) }, 0, -1},
		{"no bytes", func(put func(int, string)) { put(1, plainSector(5, 5, "")) }, 2, -1},
		{"no bytes ahead of all", func(put func(int, string)) { put(0, plainSector(4, 5, "")) }, 0, -1},
		{"a byte", func(put func(int, string)) { put(1, plainSector(5, 5, part(1)[:1])) }, 2, 1},
		{"a frame alone", func(put func(int, string)) { put(1, plainSector(5, 5, part(1)[:55])) }, 3, -1},
		{"a byte less than full", func(put func(int, string)) { put(1, plainSector(5, 5, part(1)[:109])) }, 3, 1},
		{"more bytes than there are", func(put func(int, string)) {
			s := plainSector(5, 5, part(1))
			put(1, s[:16]+"\x00\x6f"+s[18:])
		}, 2, -1},
		{"far more bytes than there are", func(put func(int, string)) {
			s := plainSector(4, 5, part(0))
			put(0, s[:16]+"\xff\xff"+s[18:])
		}, 0, -1},
		{"many times as many bytes", func(put func(int, string)) {
			s := plainSector(5, 5, part(1))
			put(1, s[:16]+"\x01\x6e"+s[18:])
		}, 2, -1},
		{"bytes behind these do not count", func(put func(int, string)) {
			put(3, plainSector(7, 5, part(3)[:55])[:18+55]+strings.Repeat("x", 55))
		}, 7, -1},
		{"a life of that", func(put func(int, string)) { put(3, plainSector(7, 7, part(3))) }, 8, -1},
		{"a life above that", func(put func(int, string)) { put(3, plainSector(7, 8, part(3))) }, 6, -1},
		{"a life far above that", func(put func(int, string)) { put(3, plainSector(7, math.MaxUint64, part(3))) }, 6, -1},
		{"a life above that, ahead of all", func(put func(int, string)) { put(0, plainSector(4, 8, part(0))) }, 0, -1},
		{"a life of that, ahead of all", func(put func(int, string)) { put(0, plainSector(4, 7, part(0))) }, 2, -1},
		{"a life below the one ahead", func(put func(int, string)) { put(2, plainSector(6, 4, part(2))) }, 4, -1},
		{"an elder life ahead of all", func(put func(int, string)) { put(0, plainSector(4, 1, part(0))) }, 8, -1},
		{"lives that rise", func(put func(int, string)) {
			put(0, plainSector(4, 1, part(0)))
			put(1, plainSector(5, 3, part(1)))
			put(2, plainSector(6, 3, part(2)))
			put(3, plainSector(7, 7, part(3)))
		}, 8, -1},
		{"a life below the one ahead, though not below the first one", func(put func(int, string)) {
			put(1, plainSector(5, 7, part(1)))
			put(2, plainSector(6, 6, part(2)))
		}, 4, -1},
		{"a frame with a byte turned", func(put func(int, string)) {
			s := []byte(part(1))
			s[20] ^= 1
			put(1, plainSector(5, 5, string(s)))
		}, 2, 1},
		{"a frame with a byte turned, in the middle of a stretch", func(put func(int, string)) {
			s := []byte(part(1))
			s[109] ^= 1
			put(1, plainSector(5, 5, string(s)))
		}, 3, 1},
		{"zeros, though there are bytes", func(put func(int, string)) { put(2, plainSector(6, 5, string(make([]byte, 110)))) }, 4, 2},
	} {
		d := made(t, 6)
		for i := range 4 {
			d.Write(1+i, plainSector(4+uint64(i), 5, part(i)))
		}
		c.make(func(i int, s string) { d.Write(1+i, s) })
		d.Write(0, strings.Repeat("l", 128))
		f := d.Copy()
		opens(t, c.what, d, 1, 4, 7, 440, texts[:c.whole]...)
		if c.cut >= 0 {
			next := 55 * c.whole
			f.Write(1+c.cut, plainSector(4+uint64(c.cut), 7, all[110*c.cut:next]))
			f.Sync()
		}
		alike(t, c.what, d, f)
		opens(t, c.what+", once more", d, 1, 4, 7, 440, texts[:c.whole]...)
	}
}

// P13.1: from an LSN within a stretch on: bytes ahead of it have to be there.
func TestOpenWithin(t *testing.T) {
	all := row(220, "one", text(60), "two", text(100))
	for _, c := range []struct {
		what  string
		first uint64
		long  int // bytes that the first stretch's sector has
		texts []string
		no    api.Errno
	}{
		{"from the beginning on, nothing there", 220, 0, nil, api.OK},
		{"a frame behind it, nothing there", 237, 0, nil, api.ErrCorrupt},
		{"a frame behind it, a byte less there", 237, 16, nil, api.ErrCorrupt},
		{"a frame behind it, just those there", 237, 17, nil, api.OK},
		{"a frame behind it, a byte more there", 237, 18, nil, api.OK},
		{"a frame behind it, a frame more there", 237, 91, []string{text(60)}, api.OK},
		{"where no frame is", 236, 91, nil, api.OK},
		{"where no frame is, a byte less there", 236, 15, nil, api.ErrCorrupt},
		{"one behind the beginning, nothing there", 221, 0, nil, api.ErrCorrupt},
		{"one behind the beginning, one there", 221, 1, nil, api.OK},
		{"at the end, a byte less there", 329, 108, nil, api.ErrCorrupt},
		{"at the end, just those there", 329, 109, nil, api.OK},
	} {
		d := made(t, 4)
		if c.long > 0 {
			d.Write(2, plainSector(2, 3, all[:c.long]))
		}
		if c.no != api.OK {
			was := d.Copy()
			closed(t, c.what, d, 0, 4, 3, c.first, c.no)
			alike(t, c.what, d, was)
			continue
		}
		l := opens(t, c.what, d, 0, 4, 3, c.first, c.texts...)
		// What is ahead of First is written again with what comes behind it.
		s, ahead := text(10), all[:c.first-220]
		appends(t, l, s, l.Next())
		is(t, c.what, l.Force(l.Next()), api.OK)
		want := plainSector(2, 3, (ahead + row(c.first, append(c.texts, s)...) + text(110))[:min(110, int(l.Next()-220))])
		if got, _ := d.Read(2); got != want {
			t.Errorf("%s: %q, not %q", c.what, got, want)
		}
		opens(t, c.what+", once more", d, 0, 4, 4, c.first, append(c.texts, s)...)
	}
	// Of another lap, or of a greater life, nothing is there.
	d := made(t, 4)
	d.Write(2, plainSector(6, 3, all[:110]))
	closed(t, "another lap's", d, 0, 4, 3, 237, api.ErrCorrupt)
	d.Write(2, plainSector(2, 4, all[:110]))
	closed(t, "a greater life's", d, 0, 4, 3, 237, api.ErrCorrupt)
	opens(t, "its life", d, 0, 4, 4, 237, text(60), "two")
}

// P13.1: bytes that are no whole record are cut off, where Next is, within a stretch or ahead of one, in its own sector alone; and synced.
func TestOpenCut(t *testing.T) {
	long := text(400)
	for _, c := range []struct {
		what  string
		texts []string // whole ones
		have  int      // bytes that the disk has
		cut   uint64   // the stretch whose sector is written; 0: none
	}{
		{"nothing there", nil, 0, 0},
		{"nothing behind", []string{"one", "two"}, 34, 0},
		{"a byte behind", []string{"one", "two"}, 35, 1},
		{"a head behind", []string{"one", "two"}, 48, 1},
		{"stretches behind", []string{"one", "two"}, 330, 1},
		{"none is whole", nil, 330, 1},
		{"none is whole, a byte", nil, 1, 1},
		{"a whole stretch, nothing behind", []string{text(96)}, 110, 0},
		{"a whole stretch, a byte behind", []string{text(96)}, 111, 2},
		{"a whole stretch, stretches behind", []string{text(96)}, 330, 2},
		{"all but a byte of the long one", []string{text(86), "one"}, 100 + 17 + 413, 2},
		{"all of the ring", []string{text(316)}, 5 * 110, 4},
	} {
		all := row(110, append(append([]string{}, c.texts...), long)...)
		d := made(t, 7)
		for i := 0; i*110 < c.have; i++ {
			d.Write(1+(i+1)%5, plainSector(uint64(i+1), 2, all[110*i:min(110*i+110, c.have)]))
		}
		for fuse := range 4 {
			g, f := d.Copy(), d.Copy()
			g.Fuse(fuse)
			f.Fuse(fuse)
			want := api.OK
			if c.cut > 0 {
				next := len(row(110, c.texts...))
				begin := int(c.cut-1) * 110
				f.Write(1+int(c.cut%5), plainSector(c.cut, 3, all[begin:next]))
				f.Sync()
			}
			if fuse == 0 || c.cut > 0 && fuse == 1 {
				want = api.ErrDown
			}
			if want != api.OK {
				closed(t, c.what, g, 1, 5, 3, 110, want)
			} else {
				opens(t, c.what, g, 1, 5, 3, 110, c.texts...)
			}
			alike(t, c.what, g, f)
		}
		// What was cut off comes no more, whatever is appended, and whatever of that a crash keeps.
		opens(t, c.what, d, 1, 5, 3, 110, c.texts...)
		opens(t, c.what+", once more", d, 1, 5, 4, 110, c.texts...)
	}
}

// P13.1: no more than the ring's bytes are a log's, and it goes on once a part of them isn't kept.
func TestOpenAll(t *testing.T) {
	for _, n := range []int{4, 9, 4096} {
		d := made(t, n)
		l := begun(t, d, 0, n, 1)
		var texts []string
		for l.Room() >= 14+96 {
			appends(t, l, text(96), l.Next())
			texts = append(texts, text(96))
		}
		if l.Room() != 0 || len(texts) != n {
			t.Fatalf("%d sectors: room %d, %d records", n, l.Room(), len(texts))
		}
		is(t, "Force", l.Force(110), api.OK)
		l, e := log.Open(d, 0, n, 2, 110)
		if e != api.OK {
			t.Fatal(e)
		}
		told(t, "full", l, 110, 110*uint64(n+1), 110*uint64(n+1), 0, 0)
		refuses(t, l, "a", api.ErrFull)
		is(t, "Keep", l.Keep(220), api.OK)
		told(t, "a stretch less", l, 220, 110*uint64(n+1), 110*uint64(n+1), 0, 110)
		appends(t, l, text(90), 110*uint64(n+1))
		is(t, "Force", l.Force(l.Next()), api.OK)
		l, e = log.Open(d, 0, n, 3, 220)
		if e != api.OK || l.Next() != 110*uint64(n+1)+104 {
			t.Fatal(e, l.Next())
		}
		reads(t, l, 110*uint64(n+1), text(90))
		reads(t, l, 220, text(96))
		none(t, l, 110)
		closed(t, "gone", d, 0, n, 3, 111, api.ErrCorrupt)
	}
}

// R5: answers share no memory with arguments, nor with each other, nor with what the log keeps.
func TestNewMemory(t *testing.T) {
	l := begun(t, made(t, 9), 0, 9, 1)
	b := []byte("text of a record")
	s := unsafe.String(&b[0], len(b))
	if _, e := l.Append(s); e != api.OK {
		t.Fatal(e)
	}
	b[0] = 'n'
	x, _, _ := l.Read(110)
	y, _, _ := l.Read(110)
	if x != "text of a record" || unsafe.StringData(x) == unsafe.StringData(y) {
		t.Errorf("%q, %q", x, y)
	}
}

// R6: logs on two rings of a disk don't touch each other; an answer doesn't hang on what was asked ahead.
func TestTwoRings(t *testing.T) {
	d := made(t, 10)
	a, b := begun(t, d, 0, 5, 1), begun(t, d, 5, 5, 9)
	appends(t, a, text(300), 110)
	appends(t, b, text(450), 110)
	is(t, "Force", a.Force(110), api.OK)
	is(t, "Force", b.Force(110), api.OK)
	appends(t, a, text(100), 424)
	is(t, "Force", a.Force(424), api.OK)
	for range 3 {
		opens(t, "first ring", d, 0, 5, 2, 110, text(300), text(100))
		opens(t, "second ring", d, 5, 5, 10, 110, text(450))
		opens(t, "second ring, elder", d, 5, 5, 8, 110)
	}
}
