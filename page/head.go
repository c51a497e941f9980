package page

import (
	"pentimento/api"
	"pentimento/word"
)

// head is a page, of which what stands ahead of its area is written and read.
type head api.Page

// carry takes a part to its bytes, or out of them: it is handed the part's number and how many bytes it has, and answers the number that the part has then. So each part says but once how it is written and read.
type carry func(n uint64, size int) uint64

func (h *head) kind(c carry)  { h.Kind = uint8(c(uint64(h.Kind), 1)) }
func (h *head) level(c carry) { h.Level = uint8(c(uint64(h.Level), 1)) }
func (h *head) id(c carry)    { h.Id = uint32(c(uint64(h.Id), 4)) }
func (h *head) lsn(c carry)   { h.LSN = c(h.LSN, 8) }
func (h *head) next(c carry)  { h.Next = uint32(c(uint64(h.Next), 4)) }

// spare: two bytes that no part has. That they are 0 is seen when the page is written again.
func (h *head) spare(c carry) { c(0, 2) }

// through: all parts, in order.
func (h *head) through(c carry) {
	for _, part := range []func(carry){h.kind, h.level, h.id, h.lsn, h.next, h.spare} {
		part(c)
	}
}

// write: the head's bytes.
func (h *head) write() string {
	var b []byte
	h.through(func(n uint64, size int) uint64 {
		s, _ := word.Put(n, size)
		b = append(b, s...)
		return n
	})
	return string(b)
}

// read: the head is that whose bytes they are.
func (h *head) read(s string) {
	at := 0
	h.through(func(_ uint64, size int) uint64 {
		n, _ := word.Get(s, at, size)
		at += size
		return n
	})
}
