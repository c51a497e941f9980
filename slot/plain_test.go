package slot_test

import (
	"math/rand/v2"
	"strings"
	"testing"

	"pentimento/api"
	"pentimento/slot"
)

// plain is an area by the chapter's words alone: its directory is laid over the other bytes when they are asked for.
type plain struct {
	cells []byte
	low   int
	dir   []plainText
}

type plainText struct{ at, size int }

func newPlain(size int) *plain {
	return &plain{cells: make([]byte, size), low: size}
}

// two is the number of two bytes from at on.
func two(s string, at int) int { return int(s[at])<<8 | int(s[at+1]) }

// loadPlain: none, unless s may be; each byte counts whose it is.
func loadPlain(s string) *plain {
	if len(s) < 16 || len(s) > 4096 || 4+4*two(s, 0) > len(s) {
		return nil
	}
	p := &plain{cells: []byte(s), low: two(s, 2)}
	for i := range two(s, 0) {
		p.dir = append(p.dir, plainText{two(s, 4+4*i), two(s, 6+4*i)})
	}
	if p.low < 4+4*len(p.dir) || p.low > len(s) {
		return nil
	}
	whose := make([]int, len(s))
	for _, t := range p.dir {
		if t.at < p.low || t.at > len(s) || t.size > len(s)-t.at {
			return nil
		}
		for k := range t.size {
			whose[t.at+k]++
		}
	}
	for _, n := range whose {
		if n > 1 {
			return nil
		}
	}
	return p
}

func (p *plain) bytes() string {
	head := numbers(len(p.dir), p.low)
	for _, t := range p.dir {
		head += numbers(t.at, t.size)
	}
	return head + string(p.cells[len(head):])
}

func (p *plain) text(i int) string {
	return string(p.cells[p.dir[i].at : p.dir[i].at+p.dir[i].size])
}

func (p *plain) has(i int) bool { return i >= 0 && i < len(p.dir) }

func (p *plain) get(i int) (string, api.Errno) {
	if !p.has(i) {
		return "", api.ErrNone
	}
	return p.text(i), api.OK
}

func (p *plain) gap() int { return p.low - 4 - 4*len(p.dir) }

func (p *plain) free() int {
	n := len(p.cells) - 4
	for _, t := range p.dir {
		n -= 4 + t.size
	}
	return n
}

func (p *plain) compact() int {
	was, tail := p.gap(), ""
	for i := range p.dir {
		tail = p.text(i) + tail
		p.dir[i].at = len(p.cells) - len(tail)
	}
	p.low = len(p.cells) - len(tail)
	p.cells = []byte(strings.Repeat("\x00", p.low) + tail)
	return p.gap() - was
}

func (p *plain) lay(text string) plainText {
	p.low -= len(text)
	copy(p.cells[p.low:], text)
	return plainText{p.low, len(text)}
}

func (p *plain) put(i int, text string) api.Errno {
	switch {
	case i < 0 || i > len(p.dir):
		return api.ErrArg
	case p.free() < len(text)+4:
		return api.ErrFull
	case p.gap() < len(text)+4:
		p.compact()
	}
	rest := append([]plainText{p.lay(text)}, p.dir[i:]...)
	p.dir = append(p.dir[:i], rest...)
	return api.OK
}

func (p *plain) set(i int, text string) api.Errno {
	switch {
	case !p.has(i):
		return api.ErrNone
	case len(text) <= p.dir[i].size:
		p.dir[i].size = len(text)
		copy(p.cells[p.dir[i].at:], text)
		return api.OK
	case len(text)-p.dir[i].size > p.free():
		return api.ErrFull
	case p.gap() < len(text):
		p.dir[i].size = 0
		p.compact()
	}
	p.dir[i] = p.lay(text)
	return api.OK
}

func (p *plain) remove(i int) api.Errno {
	if !p.has(i) {
		return api.ErrNone
	}
	p.dir = append(p.dir[:i], p.dir[i+1:]...)
	clear(p.cells[4+4*len(p.dir):][:4])
	return api.OK
}

// alike fails, unless the area answers as the plain one does.
func alike(t *testing.T, a *slot.Area, p *plain) {
	t.Helper()
	if a.Bytes() != p.bytes() {
		t.Fatalf("%q, not %q", a.Bytes(), p.bytes())
	}
	if a.Len() != len(p.dir) || a.Free() != p.free() || a.Gap() != p.gap() {
		t.Fatalf("%d, %d, %d, not %d, %d, %d", a.Len(), a.Free(), a.Gap(), len(p.dir), p.free(), p.gap())
	}
	for i := -1; i <= len(p.dir); i++ {
		s, e := a.Get(i)
		if want, is := p.get(i); s != want || e != is {
			t.Fatalf("text %d: %q, %v, not %q, %v", i, s, e, want, is)
		}
	}
}

// chance is a text of at most so many bytes.
func chance(r *rand.Rand, most int) string {
	b := make([]byte, r.IntN(most+1))
	for i := range b {
		b[i] = byte(r.IntN(256))
	}
	return string(b)
}

// step does something to both, by chance, and tells what both answer.
func step(r *rand.Rand, a *slot.Area, p *plain) (got, want api.Errno) {
	i := r.IntN(len(p.dir)+3) - 1
	most := []int{0, 3, 12, len(p.cells) / 3}[r.IntN(4)]
	switch r.IntN(12) {
	case 0, 1, 2, 3:
		text := chance(r, most)
		return a.Put(i, text), p.put(i, text)
	case 4:
		text := strings.Repeat("f", max(p.free()-4, 0)+r.IntN(2))
		return a.Put(i, text), p.put(i, text)
	case 5, 6, 7:
		text := chance(r, most)
		return a.Set(i, text), p.set(i, text)
	case 8:
		text := strings.Repeat("g", p.free()+r.IntN(12))
		return a.Set(i, text), p.set(i, text)
	case 9:
		return api.Errno(a.Compact()), api.Errno(p.compact())
	}
	return a.Remove(i), p.remove(i)
}

// holed is bytes that may be an area's, of as many texts as chance will have, with holes, and bytes in the gap that are not 0.
func holed(r *rand.Rand, size int) string {
	p := newPlain(size)
	copy(p.cells, strings.Repeat("h", size))
	n := r.IntN(size/8 + 1)
	for range n {
		room := p.low - 4 - 4*n
		t := plainText{size: min(r.IntN(8), room)}
		t.at = p.low - t.size - r.IntN(min(4, room-t.size+1))
		copy(p.cells[t.at:], chance(r, t.size))
		p.dir = append(p.dir, t)
		p.low = t.at
	}
	r.Shuffle(n, func(i, j int) { p.dir[i], p.dir[j] = p.dir[j], p.dir[i] })
	p.low -= r.IntN(min(5, p.gap()+1))
	return p.bytes()
}

// P5.1 to P5.4: whatever is done, in whatever order, to areas that were made or loaded, each answer is the plain area's, and its bytes are loaded as it.
func TestAsPlain(t *testing.T) {
	for seed := range uint64(400) {
		r := rand.New(rand.NewPCG(seed, 5))
		size := []int{16, 17, 20, 40, 100, 488, 4096}[r.IntN(7)]
		a, p := made(t, size), newPlain(size)
		if r.IntN(2) == 0 {
			s := holed(r, size)
			a, p = loaded(t, s), loadPlain(s)
		}
		for range 200 {
			if got, want := step(r, a, p); got != want {
				t.Fatalf("seed %d: %v, not %v", seed, got, want)
			}
			alike(t, a, p)
			if r.IntN(10) == 0 {
				a = loaded(t, a.Bytes())
			}
		}
	}
}

// P5.4: what is free can be put, to the last byte, and texts stay what they are, whatever was removed ahead.
func TestFreeCanBePut(t *testing.T) {
	for seed := range uint64(300) {
		r := rand.New(rand.NewPCG(seed, 54))
		s := holed(r, 16+r.IntN(200))
		a := loaded(t, s)
		var want []string
		for i := range a.Len() {
			text, _ := a.Get(i)
			want = append(want, text)
		}
		for len(want) > 0 && (a.Free() < 4 || r.IntN(3) > 0) {
			i := r.IntN(len(want))
			is(t, "Remove", a.Remove(i), api.OK)
			want = append(want[:i], want[i+1:]...)
		}
		if a.Free() < 4 {
			continue
		}
		text, i := strings.Repeat("p", a.Free()-4), r.IntN(len(want)+1)
		is(t, "Put of one byte more than is free", a.Put(i, text+"p"), api.ErrFull)
		is(t, "Put of what is free", a.Put(i, text), api.OK)
		counts(t, "full", a, len(want)+1, 0, 0)
		holds(t, "full", a, append(want[:i:i], append([]string{text}, want[i:]...)...)...)
	}
}

// sameForm fails, unless bytes are loaded just if the chapter's words let them be, and then as they are.
func sameForm(t *testing.T, s string) bool {
	t.Helper()
	a, e := slot.Load(s)
	p := loadPlain(s)
	if p == nil {
		if a != nil || e != api.ErrForm {
			t.Fatalf("Load(%q): %v, %v", s, a, e)
		}
		return false
	}
	if a == nil || e != api.OK {
		t.Fatalf("Load(%q): %v, %v", s, a, e)
	}
	alike(t, a, p)
	return true
}

// P5.1: each directory of up to two texts in the least area, with its low place wherever, is loaded just if it may be.
func TestEachForm(t *testing.T) {
	is := 0
	count := func(s string) {
		if sameForm(t, s) {
			is++
		}
	}
	for n := range 8 {
		for low := range 19 {
			count(numbers(n, low) + "............")
			for at := range 19 {
				for size := range 12 {
					count(numbers(n, low, at, size) + "........")
				}
			}
		}
	}
	for low := 10; low < 18; low++ {
		for k := range 7 * 7 * 7 * 7 {
			count(numbers(2, low, 11+k%7, k/7%7, 11+k/49%7, k/343) + "....")
		}
	}
	if is < 300 {
		t.Errorf("only %d may be", is)
	}
}

// P5.1: an area whose bytes become other ones by chance is loaded just if it may be.
func TestForms(t *testing.T) {
	var is, not int
	for seed := range uint64(5000) {
		r := rand.New(rand.NewPCG(seed, 51))
		b := []byte(holed(r, 16+r.IntN(60)))
		if !sameForm(t, string(b)) {
			t.Fatalf("seed %d: %q", seed, b)
		}
		for range 1 + r.IntN(3) {
			i := r.IntN(min(len(b), 4+4*two(string(b), 0)))
			if i%2 == 1 || r.IntN(8) == 0 {
				b[i] += byte(r.IntN(7) - 3)
			}
		}
		if r.IntN(10) == 0 {
			b = b[:len(b)-r.IntN(8)]
		}
		if sameForm(t, string(b)) {
			is++
		} else {
			not++
		}
	}
	if is < 500 || not < 500 {
		t.Errorf("%d may be, %d may not", is, not)
	}
}
