package op

import "pentimento/api"

// How many bytes the numbers of a list of ops have.
const (
	manySize  = 1 // of how many ops there are
	kindSize  = 1 // of ops, and of pages
	levelSize = 1
	pageSize  = 4
	placeSize = 2
	longSize  = 2 // of how many bytes a text has, and how many rows there are
)

// parts is an op, of which each part is written and read.
type parts api.Op

// carrier takes a part to its bytes, or out of them: it is handed what the part is, and answers what it is then. So each part says but once how it is written and read.
type carrier interface {
	number(n uint64, size int) uint64
	text(s string) string
}

func (p *parts) kind(c carrier)  { p.Kind = uint8(c.number(uint64(p.Kind), kindSize)) }
func (p *parts) page(c carrier)  { p.Page = uint32(c.number(uint64(p.Page), pageSize)) }
func (p *parts) at(c carrier)    { p.At = int(c.number(uint64(p.At), placeSize)) }
func (p *parts) off(c carrier)   { p.Off = int(c.number(uint64(p.Off), placeSize)) }
func (p *parts) text(c carrier)  { p.Text = c.text(p.Text) }
func (p *parts) pkind(c carrier) { p.PKind = uint8(c.number(uint64(p.PKind), kindSize)) }
func (p *parts) level(c carrier) { p.Level = uint8(c.number(uint64(p.Level), levelSize)) }
func (p *parts) next(c carrier)  { p.Next = uint32(c.number(uint64(p.Next), pageSize)) }

// rows: they go by a list of their own, since the op's is somebody else's.
func (p *parts) rows(c carrier) {
	l := make([]string, c.number(uint64(len(p.Rows)), longSize))
	copy(l, p.Rows)
	for i := range l {
		l[i] = c.text(l[i])
	}
	p.Rows = l
}

// has: what its kind has, in the order of its bytes.
func (p *parts) has() []func(carrier) {
	switch p.Kind {
	case api.OpFormat:
		return []func(carrier){p.pkind, p.level, p.next}
	case api.OpPut, api.OpSet:
		return []func(carrier){p.at, p.text}
	case api.OpDrop, api.OpCut:
		return []func(carrier){p.at}
	case api.OpFill:
		return []func(carrier){p.rows}
	case api.OpNext:
		return []func(carrier){p.next}
	case api.OpPatch:
		return []func(carrier){p.at, p.off, p.text}
	}
	return nil
}

// through: what its kind has is carried, part by part.
func (p *parts) through(c carrier) {
	for _, part := range p.has() {
		part(c)
	}
}

// whole: all of it is carried. What it has hangs on its kind, so that comes first.
func (p *parts) whole(c carrier) {
	for _, part := range []func(carrier){p.kind, p.page, p.through} {
		part(c)
	}
}
