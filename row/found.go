package row

import (
	"strings"

	"pentimento/api"
	"pentimento/word"
)

// place is the bytes that a row stands in, of which the first ones are taken.
type place struct {
	bytes string
	taken int
}

// next: the next bytes, which are taken then; whether they are all there.
func (p *place) next(size int) (string, bool) {
	part, is := word.Cut(p.bytes, p.taken, size)
	p.taken += len(part)
	return part, is
}

// left: how many bytes are not taken.
func (p *place) left() int { return len(p.bytes) - p.taken }

// blank: whether those are all 0.
func (p *place) blank() bool {
	return strings.TrimLeft(p.bytes[p.taken:], "\x00") == ""
}

// found is a row that is read, and the place where it is.
type found struct {
	place
	api.Row
}

// read: the row is that of its place, if it may be, and what is left is blank; false, if a part is wanting there, or the mark is none.
func (f *found) read() bool {
	whole := true
	take := func(size int) string {
		part, is := f.next(size)
		whole = whole && is
		return part
	}
	number := func(size int) uint64 {
		n, _ := word.Get(take(size), 0, size)
		return n
	}
	text := func() string { return take(int(number(longSize))) }
	mark := number(markSize)
	f.Mark = mark == 1
	f.Tx = number(txSize)
	f.Roll.Page = uint32(number(pageSize))
	f.Roll.Slot = uint16(number(slotSize))
	f.Key = text()
	f.Value = text()
	f.Pad = f.left()
	return whole && mark <= 1
}
