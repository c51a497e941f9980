package disk_test

import (
	"math/rand/v2"
	"slices"
	"testing"

	"pentimento/api"
	"pentimento/disk"
)

// plain is a disk by the chapter's words alone: what it has is looked for in what was done.
type plain struct {
	sure  []string
	loose []plainWrite
	fuse  []int // empty: there is none
}

type plainWrite struct {
	k int
	s string
}

func newPlain(sectors int) *plain {
	p := &plain{}
	for range sectors {
		p.sure = append(p.sure, zero())
	}
	return p
}

func (p *plain) still() bool { return len(p.fuse) > 0 && p.fuse[0] == 0 }

func (p *plain) done() api.Errno {
	for i := range p.fuse {
		p.fuse[i]--
	}
	return api.OK
}

func (p *plain) write(k int, s string) api.Errno {
	if p.still() {
		return api.ErrDown
	}
	if k < 0 || k >= len(p.sure) || len(s) != 128 {
		return api.ErrArg
	}
	p.loose = append(p.loose, plainWrite{k, s})
	return p.done()
}

func (p *plain) sync() api.Errno {
	if p.still() {
		return api.ErrDown
	}
	for _, w := range p.loose {
		p.sure[w.k] = w.s
	}
	p.loose = nil
	return p.done()
}

func (p *plain) read(k int) (string, api.Errno) {
	if p.still() {
		return "", api.ErrDown
	}
	if k < 0 || k >= len(p.sure) {
		return "", api.ErrArg
	}
	for _, w := range slices.Backward(p.loose) {
		if w.k == k {
			return w.s, api.OK
		}
	}
	return p.sure[k], api.OK
}

func (p *plain) setFuse(n int) api.Errno {
	if n < 0 {
		return api.ErrArg
	}
	p.fuse = []int{n}
	return api.OK
}

func (p *plain) crash(keep []bool) api.Errno {
	for i, w := range p.loose {
		if i < len(keep) && keep[i] {
			p.sure[w.k] = w.s
		}
	}
	p.loose, p.fuse = nil, nil
	return api.OK
}

func (p *plain) copied() *plain {
	return &plain{slices.Clone(p.sure), slices.Clone(p.loose), slices.Clone(p.fuse)}
}

// alike fails, unless the disk answers as the plain one does.
func alike(t *testing.T, d *disk.Disk, p *plain) {
	t.Helper()
	if d.Len() != len(p.sure) || d.Loose() != len(p.loose) {
		t.Fatalf("%d sectors, %d loose, not %d, %d", d.Len(), d.Loose(), len(p.sure), len(p.loose))
	}
	var all string
	for _, s := range p.sure {
		all += s
	}
	if d.Sure() != all {
		t.Fatalf("%q is sure, not %q", d.Sure(), all)
	}
	for k := -1; k <= len(p.sure); k++ {
		s, e := d.Read(k)
		if want, is := p.read(k); s != want || e != is {
			t.Fatalf("sector %d: %q, %v, not %q, %v", k, s, e, want, is)
		}
	}
}

// step does something to both, by chance, and tells what both answer.
func step(r *rand.Rand, d *disk.Disk, p *plain) (got, want api.Errno) {
	switch r.IntN(16) {
	case 0, 1:
		return d.Sync(), p.sync()
	case 2:
		n := r.IntN(12) - 2
		return d.Fuse(n), p.setFuse(n)
	case 3:
		keep := make([]bool, r.IntN(12))
		for i := range keep {
			keep[i] = r.IntN(2) == 1
		}
		return d.Crash(keep...), p.crash(keep)
	case 4:
		k, s := r.IntN(len(p.sure)+4)-2, full('w')[:r.IntN(129)]
		return d.Write(k, s), p.write(k, s)
	}
	k, s := r.IntN(len(p.sure)), full(byte(r.IntN(256)))
	return d.Write(k, s), p.write(k, s)
}

// P4.1 to P4.4: whatever is done, in whatever order, each answer is the plain disk's; copies go on by themselves.
func TestAsPlain(t *testing.T) {
	for seed := range uint64(150) {
		r := rand.New(rand.NewPCG(seed, 4))
		n := 1 + r.IntN(5)
		disks, plains := []*disk.Disk{made(t, n)}, []*plain{newPlain(n)}
		for range 200 {
			i := r.IntN(len(disks))
			if len(disks) < 4 && r.IntN(20) == 0 {
				disks, plains = append(disks, disks[i].Copy()), append(plains, plains[i].copied())
			}
			if got, want := step(r, disks[i], plains[i]); got != want {
				t.Fatalf("seed %d: %v, not %v", seed, got, want)
			}
			for j := range disks {
				alike(t, disks[j], plains[j])
			}
		}
	}
}
