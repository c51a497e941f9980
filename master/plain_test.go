package master_test

import (
	"hash/crc32"
	"math/rand/v2"
	"strings"
	"testing"

	"pentimento/api"
	"pentimento/disk"
	"pentimento/master"
)

// bytesOf is n's eight bytes, the highest first.
func bytesOf(n uint64) string {
	b := make([]byte, 8)
	for i := range b {
		b[i] = byte(n >> (8 * (7 - i)))
	}
	return string(b)
}

// sealed is a text, and behind it its sum, the lowest byte first, by the library.
func sealed(s string) string {
	c := crc32.Checksum([]byte(s), crc32.MakeTable(crc32.Castagnoli))
	return s + string([]byte{byte(c), byte(c >> 8), byte(c >> 16), byte(c >> 24)})
}

// plainSector is a master's sector by the chapter's words, also of one that may not be.
func plainSector(m api.Master) string {
	s := "\x01" + bytesOf(m.Count) + bytesOf(m.Life) + bytesOf(m.Check) + bytesOf(m.First)
	if m.Clean {
		s += "\x01"
	} else {
		s += "\x00"
	}
	return sealed(s + strings.Repeat("\x00", 124-len(s)))
}

// plainMay: whether it may be, by the chapter's words.
func plainMay(m api.Master) bool {
	if m.Count < 1 || m.Life < 1 || m.First < 1 {
		return false
	}
	return m.Check == 0 || !(m.Check < m.First)
}

// plainLoad is what Load is to answer, if those are the masters whose sectors stand at at and at at + 1; nil where there is none.
func plainLoad(left, right *api.Master) (api.Master, api.Errno) {
	if left != nil && left.Count%2 != 0 {
		left = nil
	}
	if right != nil && right.Count%2 != 1 {
		right = nil
	}
	switch {
	case left == nil && right == nil:
		return api.Master{}, api.ErrCorrupt
	case left == nil:
		return *right, api.OK
	case right == nil:
		return *left, api.OK
	case left.Count > right.Count:
		return *left, api.OK
	}
	return *right, api.OK
}

// number is one by chance: small ones, so that equal ones come often, and long ones.
func number(r *rand.Rand) uint64 {
	if r.IntN(4) == 0 {
		return r.Uint64() >> r.IntN(64)
	}
	return r.Uint64N(5)
}

// some is a master by chance, which mostly may be.
func some(r *rand.Rand) api.Master {
	return api.Master{Count: number(r), Life: 1 + number(r), Check: number(r), First: number(r), Clean: r.IntN(2) == 0}
}

// P12.1: masters by chance have just the sectors of the chapter's words, and these are read as what they were.
func TestPlainSectors(t *testing.T) {
	r := rand.New(rand.NewPCG(12, 1))
	could, couldnt := 0, 0
	for range 20000 {
		m := some(r)
		if plainMay(m) {
			could++
			encodes(t, m, plainSector(m))
			decodes(t, "sector", plainSector(m), m)
			continue
		}
		couldnt++
		refused(t, m)
		formless(t, "of what may not be", plainSector(m))
	}
	if could < 3000 || couldnt < 3000 {
		t.Errorf("%d may be, %d may not", could, couldnt)
	}
}

// P12.1: sectors with bytes changed by chance are none, whether they are sealed again or not, but where they come out as another master's.
func TestPlainChanged(t *testing.T) {
	r := rand.New(rand.NewPCG(12, 2))
	none, other := 0, 0
	for range 20000 {
		m := some(r)
		b := []byte(plainSector(m))
		for range 1 + r.IntN(2) {
			b[r.IntN(40)] = byte(r.IntN(3))
		}
		s := sealed(string(b[:124]))
		is, may := plainRead(s)
		if may {
			other++
			decodes(t, "changed", s, is)
		} else {
			none++
			formless(t, "changed", s)
		}
	}
	if none < 3000 || other < 3000 {
		t.Errorf("%d are none, %d are another", none, other)
	}
}

// plainRead is the master whose sector s is, if there is one: by what each byte is to be.
func plainRead(s string) (api.Master, bool) {
	var l [4]uint64
	for i := range l {
		for k := range 8 {
			l[i] = l[i]<<8 + uint64(s[1+8*i+k])
		}
	}
	m := api.Master{Count: l[0], Life: l[1], Check: l[2], First: l[3], Clean: s[33] == 1}
	return m, plainMay(m) && s == plainSector(m)
}

// P12.2: disks whose two sectors have, by chance, masters at their places or at the other's, or none at all.
func TestPlainLoad(t *testing.T) {
	r := rand.New(rand.NewPCG(12, 3))
	from := [4]int{}
	for range 20000 {
		d := made(t, 4)
		at := r.IntN(3)
		var there [2]*api.Master
		for i := range there {
			m := some(r)
			s := plainSector(m)
			switch {
			case r.IntN(6) == 0:
				s = string(make([]byte, 128))
			case r.IntN(6) == 0:
				s = s[:100] + "x" + s[101:]
			case plainMay(m):
				there[i] = &m
			}
			is(t, "Write", d.Write(at+i, s), api.OK)
		}
		want, no := plainLoad(there[0], there[1])
		loads(t, "by chance", d, at, want, no)
		switch {
		case no != api.OK:
			from[0]++
		case there[0] == nil || there[1] == nil:
			from[1]++
		default:
			from[2+want.Count%2]++
		}
	}
	for i, n := range from {
		if n < 300 {
			t.Errorf("outcome %d came %d times", i, n)
		}
	}
}

// P12.3: masters whose Counts follow each other are stored, by chance cut off by a fuse and a crash that keeps what was loose, or not; what is loaded then is the one ahead or the one that was stored, and the next one goes on from there.
func TestPlainCrashes(t *testing.T) {
	r := rand.New(rand.NewPCG(12, 4))
	lost, kept, whole := 0, 0, 0
	for range 200 {
		d := made(t, 5)
		at := r.IntN(4)
		last := api.Master{Count: 1 + r.Uint64N(9), Life: 1, First: 110}
		is(t, "first", master.Store(d, at, last), api.OK)
		for range 50 {
			next := api.Master{Count: last.Count + 1, Life: 1 + number(r), First: 1, Check: number(r), Clean: r.IntN(2) == 0}
			fuse, keep := r.IntN(4), r.IntN(2) == 0
			is(t, "Fuse", d.Fuse(fuse), api.OK)
			e := master.Store(d, at, next)
			is(t, "Crash", d.Crash(keep), api.OK)
			switch {
			case fuse >= 2:
				is(t, "whole", e, api.OK)
				last, whole = next, whole+1
			case fuse == 1 && keep:
				is(t, "kept", e, api.ErrDown)
				last, kept = next, kept+1
			default:
				is(t, "lost", e, api.ErrDown)
				lost++
			}
			loads(t, "behind it", d, at, last, api.OK)
		}
	}
	if lost < 1000 || kept < 500 || whole < 1000 {
		t.Errorf("%d lost, %d kept, %d whole", lost, kept, whole)
	}
}

// P12.2: storing does what the chapter says to a disk, whatever the disk's size, place, fuse and master, by chance; a disk that does just that is alike.
func TestPlainStore(t *testing.T) {
	r := rand.New(rand.NewPCG(12, 5))
	told := map[api.Errno]int{}
	for range 20000 {
		d := made(t, 1+r.IntN(4))
		d.Write(0, strings.Repeat("w", 128))
		if r.IntN(2) == 0 {
			d.Fuse(r.IntN(4))
		}
		at, m := r.IntN(6)-1, some(r)
		twin := d.Copy()
		want := plainStore(twin, at, m)
		e := master.Store(d, at, m)
		is(t, "Store", e, want)
		told[e]++
		alike(t, "Store", d, twin)
	}
	for _, e := range []api.Errno{api.OK, api.ErrArg, api.ErrDown} {
		if told[e] < 300 {
			t.Errorf("%v came %d times", e, told[e])
		}
	}
}

// plainStore is what Store is to do, by the chapter's words.
func plainStore(d *disk.Disk, at int, m api.Master) api.Errno {
	if !plainMay(m) {
		return api.ErrArg
	}
	k := at
	if m.Count%2 == 1 {
		k = at + 1
	}
	if e := d.Write(k, plainSector(m)); e != api.OK {
		return e
	}
	return d.Sync()
}
