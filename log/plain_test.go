package log_test

import (
	"hash/crc32"
	"math/rand/v2"
	"testing"

	"pentimento/api"
	"pentimento/disk"
	"pentimento/log"
)

// bytesOf is n's bytes, the highest first.
func bytesOf(n uint64, size int) string {
	b := make([]byte, size)
	for i := range b {
		b[i] = byte(n >> (8 * (size - 1 - i)))
	}
	return string(b)
}

// plainFrame is the frame of s at lsn by layer 10's words, its sum by the library.
func plainFrame(lsn uint64, s string) string {
	head := bytesOf(uint64(len(s)), 2) + bytesOf(lsn, 8)
	c := crc32.Checksum([]byte(head+s), crc32.MakeTable(crc32.Castagnoli))
	return head + string([]byte{byte(c), byte(c >> 8), byte(c >> 16), byte(c >> 24)}) + s
}

// plainSector is the k-th stretch's sector by the chapter's words, if it has these bytes.
func plainSector(k, life uint64, text string) string {
	s := bytesOf(k*110, 8) + bytesOf(life, 8) + bytesOf(uint64(len(text)), 2) + text
	return s + string(make([]byte, 128-len(s)))
}

// plainStream is the stream from an LSN's stretch on, as bytes by LSNs, by the chapter's words.
func plainStream(d *disk.Disk, at, n int, life, lsn uint64) (map[uint64]byte, api.Errno) {
	all := map[uint64]byte{}
	ahead := uint64(0)
	for k := lsn / 110; ; k++ {
		s, e := d.Read(at + int(k%uint64(n)))
		if e != api.OK {
			return nil, e
		}
		number := int(s[16])*256 + int(s[17])
		if s[:8] != bytesOf(k*110, 8) || number == 0 || number > 110 || s[8:16] > bytesOf(life, 8) || s[8:16] < bytesOf(ahead, 8) {
			return all, api.OK
		}
		for i := range number {
			all[k*110+uint64(i)] = s[18+i]
		}
		if number < 110 {
			return all, api.OK
		}
		ahead = 0
		for i := range 8 {
			ahead = ahead*256 + uint64(s[8+i])
		}
	}
}

// plainLog is a log by the chapter's words: each of its bytes, and each of its records, by LSNs.
type plainLog struct {
	d                   *disk.Disk
	at, n               int
	life                uint64
	first, next, forced uint64
	reserved            int
	bytes               map[uint64]byte
	records             map[uint64]string
}

// plainMay: whether the ring and the life may be.
func plainMay(d *disk.Disk, at, n int, life uint64) bool {
	return at >= 0 && n >= 4 && n <= 4096 && at+n <= d.Len() && life > 0
}

// plainNew is what New is to answer.
func plainNew(d *disk.Disk, at, n int, life uint64) (*plainLog, api.Errno) {
	if !plainMay(d, at, n, life) {
		return nil, api.ErrArg
	}
	return &plainLog{d, at, n, life, 110, 110, 110, 0, map[uint64]byte{}, map[uint64]string{}}, api.OK
}

// plainOpen is what Open is to answer, and to do.
func plainOpen(d *disk.Disk, at, n int, life, first uint64) (*plainLog, api.Errno) {
	if !plainMay(d, at, n, life) || first < 110 || first > 1<<62 {
		return nil, api.ErrArg
	}
	all, e := plainStream(d, at, n, life, first)
	if e != api.OK {
		return nil, e
	}
	if first%110 != 0 && uint64(len(all)) < first%110 {
		return nil, api.ErrCorrupt
	}
	p := &plainLog{d, at, n, life, first, first, first, 0, all, map[uint64]string{}}
	for {
		text, is := p.frameAt(p.next)
		if !is {
			break
		}
		p.records[p.next] = text
		p.next += uint64(14 + len(text))
	}
	p.forced = p.next
	if _, is := all[p.next]; is {
		k := p.next / 110
		if e := d.Write(p.sector(k), plainSector(k, life, p.text(k*110, p.next))); e != api.OK {
			return nil, e
		}
		if e := d.Sync(); e != api.OK {
			return nil, e
		}
	}
	return p, api.OK
}

// frameAt is the record whose frame the bytes have at lsn, if they have one.
func (p *plainLog) frameAt(lsn uint64) (string, bool) {
	high, is := p.bytes[lsn]
	low, too := p.bytes[lsn+1]
	long := int(high)*256 + int(low)
	if !is || !too || long == 0 || long > 4096 {
		return "", false
	}
	end := lsn + uint64(14+long)
	if _, is := p.bytes[end-1]; !is {
		return "", false
	}
	text := p.text(lsn+14, end)
	return text, plainFrame(lsn, text) == p.text(lsn, end)
}

// text is the bytes from an LSN up to another one.
func (p *plainLog) text(from, to uint64) string {
	b := make([]byte, 0, to-from)
	for lsn := from; lsn < to; lsn++ {
		b = append(b, p.bytes[lsn])
	}
	return string(b)
}

func (p *plainLog) sector(k uint64) int { return p.at + int(k%uint64(p.n)) }

func (p *plainLog) room() int {
	n := p.n*110 + int(p.first-p.first%110) - int(p.next) - p.reserved
	if n < 0 {
		return 0
	}
	return n
}

func (p *plainLog) append(s string) (uint64, api.Errno) {
	if len(s) < 1 || len(s) > 4096 {
		return 0, api.ErrArg
	}
	if 14+len(s) > p.room() {
		return 0, api.ErrFull
	}
	lsn := p.next
	p.records[lsn] = s
	for i, c := range []byte(plainFrame(lsn, s)) {
		p.bytes[lsn+uint64(i)] = c
	}
	p.next += uint64(14 + len(s))
	return lsn, api.OK
}

func (p *plainLog) force(lsn uint64) api.Errno {
	if lsn > p.next {
		return api.ErrArg
	}
	if lsn < p.forced || p.forced == p.next {
		return api.OK
	}
	for k := p.first / 110; k*110 < p.next; k++ {
		end := min(k*110+110, p.next)
		if end <= p.forced {
			continue
		}
		if e := p.d.Write(p.sector(k), plainSector(k, p.life, p.text(k*110, end))); e != api.OK {
			return e
		}
	}
	if e := p.d.Sync(); e != api.OK {
		return e
	}
	p.forced = p.next
	return api.OK
}

func (p *plainLog) read(lsn uint64) (string, uint64, api.Errno) {
	s, is := p.records[lsn]
	if !is || lsn < p.first {
		return "", 0, api.ErrNone
	}
	return s, lsn + uint64(14+len(s)), api.OK
}

func (p *plainLog) keep(lsn uint64) api.Errno {
	_, is := p.records[lsn]
	if lsn < p.first || lsn > p.forced || !is && lsn != p.next {
		return api.ErrArg
	}
	p.first = lsn
	return api.OK
}

func (p *plainLog) reserve(n int) api.Errno {
	if n > p.room() {
		return api.ErrFull
	}
	if p.reserved+n < 0 {
		return api.ErrArg
	}
	p.reserved += n
	return api.OK
}

// both is a log, and a plain one, each on a disk of its own, to which the same is done.
type both struct {
	t     *testing.T
	r     *rand.Rand
	d, f  *disk.Disk
	l     *log.Log
	p     *plainLog
	at, n int
	life  uint64
	many  map[string]int // how often each call was answered how
}

// told notes what a call was answered, and fails, unless it is what is wanted.
func (b *both) told(call string, e, want api.Errno) {
	b.t.Helper()
	if e != want {
		b.t.Fatalf("%s: %v, not %v", call, e, want)
	}
	b.many[call+" "+want.Error()]++
}

// alike fails, unless logs and disks tell the same.
func (b *both) alike(call string) {
	b.t.Helper()
	l, p := b.l, b.p
	if l.First() != p.first || l.Next() != p.next || l.Forced() != p.forced || l.Reserved() != p.reserved || l.Room() != p.room() {
		b.t.Fatalf("%s: first %d, next %d, forced %d, reserved %d, room %d, not %d, %d, %d, %d, %d", call,
			l.First(), l.Next(), l.Forced(), l.Reserved(), l.Room(), p.first, p.next, p.forced, p.reserved, p.room())
	}
	if b.d.Loose() != b.f.Loose() || b.d.Sure() != b.f.Sure() {
		b.t.Fatalf("%s: the disk has other bytes", call)
	}
	sameReads(b.t, call, b.d, b.f)
}

// sameReads fails, unless all sectors are read alike.
func sameReads(t *testing.T, what string, d, f *disk.Disk) {
	t.Helper()
	for k := range f.Len() {
		s, e := d.Read(k)
		if x, no := f.Read(k); s != x || e != no {
			t.Fatalf("%s: sector %d is %q, %v, not %q, %v", what, k, s, e, x, no)
		}
	}
}

// somewhere is an LSN by chance: mostly where a frame begins, or near the places that matter.
func (b *both) somewhere() uint64 {
	p := b.p
	lsn := []uint64{p.first, p.next, p.forced, p.next - p.next%110, p.first - p.first%110}[b.r.IntN(5)]
	switch b.r.IntN(4) {
	case 0:
		return lsn + b.r.Uint64N(40) - 20
	case 1:
		lsn = p.first
		for range b.r.IntN(20) {
			s, is := p.records[lsn]
			if !is {
				break
			}
			lsn += uint64(14 + len(s))
		}
	}
	return lsn
}

// text is a record's bytes by chance.
func (b *both) text() string {
	n := []int{3, 30, 97, 200, 700, 4200}[b.r.IntN(6)]
	s := make([]byte, b.r.IntN(n))
	switch b.r.IntN(12) {
	case 0: // up to the end of a stretch, or of the room
		s = make([]byte, max(0, 110-int(b.p.next%110)-14))
	case 1:
		s = make([]byte, max(0, min(4200, b.p.room()-14+b.r.IntN(3)-1)))
	}
	for i := range s {
		s[i] = byte(b.r.IntN(256))
	}
	return string(s)
}

// step does one thing by chance to both.
func (b *both) step() {
	b.t.Helper()
	switch c := b.r.IntN(100); {
	case c < 45:
		s := b.text()
		lsn, e := b.l.Append(s)
		want, no := b.p.append(s)
		b.told("Append", e, no)
		if lsn != want {
			b.t.Fatalf("Append: %d, not %d", lsn, want)
		}
	case c < 60:
		lsn := b.somewhere()
		b.told("Force", b.l.Force(lsn), b.p.force(lsn))
	case c < 72:
		lsn := b.somewhere()
		s, next, e := b.l.Read(lsn)
		x, behind, no := b.p.read(lsn)
		b.told("Read", e, no)
		if s != x || next != behind {
			b.t.Fatalf("Read(%d): %q, %d, not %q, %d", lsn, s, next, x, behind)
		}
	case c < 84:
		lsn := b.somewhere()
		b.told("Keep", b.l.Keep(lsn), b.p.keep(lsn))
	case c < 90:
		n := b.r.IntN(b.p.room()+20) - b.r.IntN(b.p.reserved+10)
		b.told("Reserve", b.l.Reserve(n), b.p.reserve(n))
	case c < 93:
		n := b.r.IntN(12)
		b.told("Fuse", b.d.Fuse(n), b.f.Fuse(n))
	case c < 96:
		b.spoil()
	default:
		b.again()
	}
}

// spoil changes bytes of a sector's head, or all of it, now and then.
func (b *both) spoil() {
	if b.r.IntN(3) > 0 {
		return
	}
	k := b.at + b.r.IntN(b.n)
	s, e := b.f.Read(k)
	if e != api.OK {
		return
	}
	c := []byte(s)
	for range 1 + b.r.IntN(2) {
		c[[]int{7, 15, 16, 17, 17, b.r.IntN(128)}[b.r.IntN(6)]] = byte(b.r.IntN(112))
	}
	b.told("spoil", b.d.Write(k, string(c)), b.f.Write(k, string(c)))
}

// again crashes both disks, mostly, and opens the logs again, or others; if they aren't opened both are as they were, unless there was a crash.
func (b *both) again() {
	b.t.Helper()
	crashed := b.r.IntN(5) > 0
	if crashed {
		keep := make([]bool, b.r.IntN(30))
		for i := range keep {
			keep[i] = b.r.IntN(3) > 0
		}
		b.told("Crash", b.d.Crash(keep...), b.f.Crash(keep...))
	}
	if b.r.IntN(8) == 0 {
		n := b.r.IntN(3)
		b.told("Fuse", b.d.Fuse(n), b.f.Fuse(n))
	}
	first := b.p.first
	if b.r.IntN(4) == 0 {
		first = b.somewhere()
	}
	b.life += uint64(1 + b.r.IntN(2))
	life := b.life
	if b.r.IntN(6) == 0 {
		life = b.r.Uint64N(life + 2)
	}
	l, e := log.Open(b.d, b.at, b.n, life, first)
	p, no := plainOpen(b.f, b.at, b.n, life, first)
	b.told("Open", e, no)
	switch {
	case (l == nil) != (p == nil):
		b.t.Fatalf("Open: %v, not %v", l, p)
	case p != nil:
		b.l, b.p = l, p
	case crashed: // what logs that were lost think is on the disk isn't: they are begun anew
		b.told("Crash", b.d.Crash(), b.f.Crash())
		b.l, _ = log.New(b.d, b.at, b.n, b.life)
		b.p, _ = plainNew(b.f, b.at, b.n, b.life)
	}
}

// P13.1 to P13.4: logs by chance do and answer as the chapter says, on disks that crash, stand still and are spoilt.
func TestAsPlain(t *testing.T) {
	many := map[string]int{}
	for seed := range uint64(400) {
		r := rand.New(rand.NewPCG(seed, 13))
		n := 4 + r.IntN([]int{1, 8, 60}[r.IntN(3)])
		at := r.IntN(3)
		d, _ := disk.New(at + n + r.IntN(3))
		b := &both{t: t, r: r, d: d, f: d.Copy(), at: at, n: n, life: 1 + r.Uint64N(3), many: many}
		var e, no api.Errno
		b.l, e = log.New(b.d, at, n, b.life)
		b.p, no = plainNew(b.f, at, n, b.life)
		b.told("New", e, no)
		if r.IntN(3) == 0 { // far on in the log
			b.far()
		}
		for range 300 {
			b.step()
			b.alike("step")
		}
	}
	for _, what := range []string{
		"Append error 0", "Append error 2", "Append error 4", "Force error 0", "Force error 2", "Force error 40",
		"Read error 0", "Read error 3", "Keep error 0", "Keep error 2", "Reserve error 0", "Reserve error 2", "Reserve error 4",
		"Open error 0", "Open error 2", "Open error 40", "Open error 120",
	} {
		if many[what] < 100 {
			t.Errorf("%s: %d times alone", what, many[what])
		}
	}
}

// far opens both logs where nothing was written yet.
func (b *both) far() {
	b.t.Helper()
	first := 110 * (1 + b.r.Uint64N(1<<62/110))
	if b.r.IntN(4) == 0 {
		first = 1 << 62 / 110 * 110
	}
	var e, no api.Errno
	b.l, e = log.Open(b.d, b.at, b.n, b.life, first)
	b.p, no = plainOpen(b.f, b.at, b.n, b.life, first)
	b.told("Open", e, no)
	b.alike("far")
}

// chanceText is a stretch's bytes for a sector: a piece of a row of frames that goes on from stretch to stretch.
func chanceText(r *rand.Rand, row string, k int) string {
	s := row[k*110 : k*110+110]
	if r.IntN(8) == 0 {
		s = s[:r.IntN(111)]
	}
	if r.IntN(20) == 0 {
		c := []byte(s)
		for i := range c {
			c[i] += byte(r.IntN(3) / 2)
		}
		s = string(c)
	}
	return s
}

// P13.1: disks whose sectors are by chance those of stretches, of this lap and others, of lives that rise and fall, are opened as the chapter says.
func TestOpenAsPlain(t *testing.T) {
	many, cut := map[api.Errno]int{}, 0
	for seed := range uint64(20000) {
		r := rand.New(rand.NewPCG(seed, 131))
		n := 4 + r.IntN(6)
		begin := 1 + r.Uint64N(1<<uint(r.IntN(50)))
		row := ""
		for len(row) < n*110 {
			row += plainFrame(begin*110+uint64(len(row)), string(make([]byte, 1+r.IntN(100))))
		}
		d, _ := disk.New(n + 1)
		life := uint64(1)
		for i := range n {
			k := begin + uint64(i)
			if r.IntN(8) == 0 {
				life += r.Uint64N(3)
			}
			its := life
			if r.IntN(20) == 0 {
				its = r.Uint64N(life + 2)
			}
			s := plainSector(k, its, chanceText(r, row, i))
			if r.IntN(25) == 0 {
				s = plainSector(k+uint64(n)*r.Uint64N(3)-uint64(n), its, row[:110])
			}
			if r.IntN(40) == 0 {
				s = s[:17] + string([]byte{byte(109 + r.IntN(147))}) + s[18:]
			}
			if r.IntN(10) > 0 {
				d.Write(1+int(k%uint64(n)), s)
			}
		}
		f := d.Copy()
		first := begin * 110
		for range r.IntN(4) {
			first += uint64(14 + int(row[first-begin*110])*256 + int(row[first-begin*110+1]))
		}
		if r.IntN(5) == 0 {
			first = begin*110 + r.Uint64N(300)
		}
		its := max(1, life+r.Uint64N(3)-1)
		l, e := log.Open(d, 1, n, its, first)
		p, no := plainOpen(f, 1, n, its, first)
		many[no]++
		if e != no || (l == nil) != (p == nil) {
			t.Fatalf("seed %d: Open: %v, not %v", seed, e, no)
		}
		if d.Loose() != f.Loose() {
			t.Fatalf("seed %d: %d loose, not %d", seed, d.Loose(), f.Loose())
		}
		sameReads(t, "Open", d, f)
		if p == nil {
			continue
		}
		if f.Loose() == 0 {
			cut++
		}
		b := &both{t: t, d: d, f: f, l: l, p: p}
		b.alike("Open")
		for lsn := p.first; lsn <= p.next; lsn++ {
			s, next, e := l.Read(lsn)
			if x, behind, no := p.read(lsn); s != x || next != behind || e != no {
				t.Fatalf("seed %d: Read(%d): %q, %d, %v, not %q, %d, %v", seed, lsn, s, next, e, x, behind, no)
			}
		}
	}
	if many[api.OK] < 5000 || many[api.ErrCorrupt] < 1000 || cut < 1000 {
		t.Errorf("%v, %d were cut", many, cut)
	}
}
