package log_test

import (
	"math/rand/v2"
	"strconv"
	"strings"
	"testing"

	"pentimento/api"
	"pentimento/disk"
	"pentimento/log"
)

// ledger is what was appended to a log, from its First on, and how many records of that were forced. No two texts of it are the same, so that what comes back from an elder lap or life is told from what should.
type ledger struct {
	t     *testing.T
	d     *disk.Disk
	at, n int
	life  uint64
	first uint64
	texts []string
	sure  int
	count int
}

// begin is the ledger of a new log, on sectors of bytes 0.
func begin(t *testing.T, sectors, at, n int) (*ledger, *log.Log) {
	t.Helper()
	g := &ledger{t: t, d: made(t, sectors), at: at, n: n, life: 1, first: 110}
	return g, begun(t, g.d, at, n, 1)
}

// copied is a ledger that is alike, on a disk that is alike.
func (g *ledger) copied() *ledger {
	h := *g
	h.d = g.d.Copy()
	h.texts = append([]string{}, g.texts...)
	return &h
}

// append appends a text of so many bytes that there was none of yet, if there is room.
func (g *ledger) append(l *log.Log, n int) {
	g.t.Helper()
	g.count++
	s := strconv.Itoa(g.count) + "."
	s += strings.Repeat("x", max(0, n-len(s)))
	room := l.Room()
	lsn, e := l.Append(s)
	switch {
	case e == api.ErrFull && room < 14+len(s):
	case e != api.OK || lsn != g.next():
		g.t.Fatalf("Append: %d, %v", lsn, e)
	default:
		g.texts = append(g.texts, s)
	}
}

// next is the LSN behind all that was appended.
func (g *ledger) next() uint64 {
	return g.first + uint64(len(row(g.first, g.texts...)))
}

// force forces all, and notes it, if it is done.
func (g *ledger) force(l *log.Log) bool {
	g.t.Helper()
	e := l.Force(l.Next())
	if e == api.OK {
		g.sure = len(g.texts)
	}
	return e == api.OK
}

// keep keeps all but so many of those that were forced.
func (g *ledger) keep(l *log.Log, n int) {
	g.t.Helper()
	lsn := g.first + uint64(len(row(g.first, g.texts[:n]...)))
	if e := l.Keep(lsn); e != api.OK || l.First() != lsn {
		g.t.Fatalf("Keep(%d): %v, first %d", lsn, e, l.First())
	}
	g.first, g.texts, g.sure = lsn, g.texts[n:], g.sure-n
}

// open opens the log in a greater life; nil, if the disk stands still. It fails, unless all that was forced is there, and behind it a beginning of what was appended.
func (g *ledger) open(more uint64) *log.Log {
	g.t.Helper()
	g.life += more
	l, e := log.Open(g.d, g.at, g.n, g.life, g.first)
	if e == api.ErrDown {
		return nil
	}
	if e != api.OK || l.First() != g.first || l.Forced() != l.Next() {
		g.t.Fatalf("Open: %v", e)
	}
	lsn, found := g.first, 0
	for lsn < l.Next() {
		s, next, e := l.Read(lsn)
		if e != api.OK || found == len(g.texts) || s != g.texts[found] {
			g.t.Fatalf("of %d records, %d of them forced, the one of place %d is %q, %v", len(g.texts), g.sure, found, s, e)
		}
		lsn, found = next, found+1
	}
	if found < g.sure {
		g.t.Fatalf("of %d that were forced %d are there", g.sure, found)
	}
	g.texts, g.sure = g.texts[:found], found
	return l
}

// mask is whether each of so many writes is kept.
func mask(bits, many int) []bool {
	keep := make([]bool, many)
	for i := range keep {
		keep[i] = bits>>i&1 == 1
	}
	return keep
}

// crashes does f for each way of crashing while the log is forced: behind each number of calls of the disk, with each choice of what was loose.
func crashes(g *ledger, l func(*ledger) *log.Log, f func(*ledger, []bool)) {
	for fuse := range 40 {
		loose, done := 0, false
		for bits := 0; bits == 0 || bits < 1<<loose; bits++ {
			h := g.copied()
			x := l(h)
			h.d.Fuse(fuse)
			done = h.force(x)
			loose = h.d.Loose()
			keep := mask(bits, loose)
			h.d.Crash(keep...)
			f(h, keep)
		}
		if done {
			return
		}
	}
	g.t.Fatal("it is never forced")
}

// P13.5: behind each crash while a log is forced all that was forced ahead is there, and whole records alone of what comes behind: those whose sectors, and all ahead of them, stayed.
func TestCrashForce(t *testing.T) {
	for _, ahead := range []int{0, 10, 96, 150} {
		g, first := begin(t, 9, 1, 7)
		if ahead > 0 {
			g.append(first, ahead)
			g.force(first)
		}
		more := func(h *ledger) *log.Log {
			l, e := log.Open(h.d, h.at, h.n, h.life, h.first)
			if e != api.OK {
				t.Fatal(e)
			}
			for _, n := range []int{20, 130, 130, 60} {
				h.append(l, n)
			}
			return l
		}
		from := g.next()
		crashes(g, more, func(h *ledger, keep []bool) {
			done, all := h.sure == len(h.texts), append([]string{}, h.texts...)
			// The bytes are there up to the end of the last sector that stayed, with all those ahead of it that were written.
			there := from
			for i := 0; i < len(keep) && keep[i]; i++ {
				there = (from/110 + uint64(i) + 1) * 110
			}
			want := 0
			for at := g.first; want < len(all); want++ {
				at += uint64(14 + len(all[want]))
				if !done && at > there {
					break
				}
			}
			h.open(1)
			if len(h.texts) != want {
				t.Errorf("%d ahead, %v kept: %d records, not %d", ahead, keep, len(h.texts), want)
			}
		})
	}
}

// P13.5: a log that crashed goes on in a greater life, with records as long as those that were lost, and crashes again, and once more: nothing of what was lost comes back. While it is opened it crashes, too.
func TestCrashLives(t *testing.T) {
	g, first := begin(t, 8, 0, 8)
	g.append(first, 10)
	g.force(first)
	more := func(h *ledger) *log.Log {
		l := h.open(1)
		for range 2 {
			h.append(l, 120)
		}
		return l
	}
	many := 0
	crashes(g, more, func(h *ledger, _ []bool) {
		for fuse := range 3 {
			for _, keep := range []bool{false, true} {
				x := h.copied()
				x.d.Fuse(fuse)
				x.open(1)
				x.d.Crash(keep)
				crashes(x, more, func(y *ledger, _ []bool) {
					crashes(y, more, func(z *ledger, _ []bool) {
						z.open(1)
						many++
					})
				})
			}
		}
	})
	if many < 10000 {
		t.Errorf("%d ways alone", many)
	}
}

// P13.1, P13.5: what was cut off comes no more, though the sectors of what is appended then are full, and of what was cut off, too.
func TestCutStays(t *testing.T) {
	for _, lost := range []int{1, 2, 3} {
		// The stretches 1 to 4 of life 1: a whole one, and a long record, whose last sector wasn't kept.
		d := made(t, 6)
		all := row(110, text(96), text(400))
		for k := 1; k <= 4; k++ {
			d.Write(k, plainSector(uint64(k), 1, all[110*k-110:110*k]))
		}
		d.Sync()
		l := opens(t, "cut", d, 0, 6, 2, 110, text(96))
		// As many frames as there are stretches that were cut off: then a crash that keeps the first ones of them.
		texts := []string{text(96)}
		for range 4 {
			appends(t, l, text(96), l.Next())
			texts = append(texts, text(96))
		}
		d.Fuse(4)
		is(t, "Force", l.Force(220), api.ErrDown)
		d.Crash(mask(1<<lost-1, 4)...)
		opens(t, "behind it", d, 0, 6, 3, 110, texts[:1+lost]...)
	}
}

// P13.5: logs by chance, lap by lap, whose records are forced, kept, lost and overwritten, which crash at whatever call, keeping whatever was loose.
func TestCrashLaps(t *testing.T) {
	forced, lost, laps, opened := 0, 0, uint64(0), 0
	for seed := range uint64(300) {
		r := rand.New(rand.NewPCG(seed, 135))
		n := 4 + r.IntN([]int{1, 6, 30}[r.IntN(3)])
		g, l := begin(t, n+3, r.IntN(4), n)
		long := 1 + r.IntN([]int{40, 110, 500}[r.IntN(3)])
		for range 150 {
			switch c := r.IntN(20); {
			case c < 11:
				size := 1 + r.IntN(long)
				if r.IntN(3) == 0 {
					size = 96 // a stretch
				}
				g.append(l, size)
			case c < 15:
				if g.force(l) {
					forced++
				}
			case c < 17:
				g.keep(l, r.IntN(g.sure+1))
			default:
				g.d.Fuse(r.IntN(n + 2))
				g.force(l)
				had := len(g.texts)
				for l = nil; l == nil; {
					g.d.Crash(mask(r.Int(), r.IntN(60))...)
					if r.IntN(3) == 0 {
						g.d.Fuse(r.IntN(3))
					}
					l = g.open(1 + r.Uint64N(3))
				}
				g.d.Crash(mask(r.Int(), r.IntN(60))...)
				opened++
				lost += had - len(g.texts)
			}
		}
		laps += g.first / 110 / uint64(n)
	}
	if forced < 1000 || lost < 1000 || laps < 500 || opened < 1000 {
		t.Errorf("%d were forced, %d lost, %d laps, %d opened", forced, lost, laps, opened)
	}
}
