package rec

import (
	"pentimento/api"
	"pentimento/word"
)

// read: the record that these bytes have, if it may be; false, if some are wanting.
func read(s string) (api.Rec, bool) {
	taken, whole := 0, true
	take := func(size int) string {
		part, is := word.Cut(s, taken, size)
		taken += len(part)
		whole = whole && is
		return part
	}
	number := func(size int) uint64 {
		n, _ := word.Get(take(size), 0, size)
		return n
	}
	r := api.Rec{Kind: uint8(number(kindSize)), Tx: number(wideSize), Prev: number(wideSize)}
	p := partsOf(r.Kind)
	if p.roll {
		r.Roll = api.Roll{Page: uint32(number(pageSize)), Slot: uint16(number(slotSize))}
	}
	if p.next {
		r.Next = number(wideSize)
	}
	if p.number {
		r.Number = number(wideSize)
	}
	if p.tables {
		r.Tables = tablesFrom(number)
	}
	// What is left is taken as a body by all kinds, so that one that has none may not be, if something is left.
	r.Body = take(len(s) - taken)
	return r, whole
}

// tablesFrom: a checkpoint's tables, of the numbers that come.
func tablesFrom(number func(size int) uint64) api.Tables {
	t := api.Tables{Tx: number(wideSize), Number: number(wideSize)}
	for range number(longSize) {
		t.Dirty = append(t.Dirty, api.Dirty{Page: uint32(number(pageSize)), From: number(wideSize)})
	}
	for range number(longSize) {
		t.Txns = append(t.Txns, api.Active{Tx: number(wideSize), First: number(wideSize), Last: number(wideSize), Next: number(wideSize)})
	}
	return t
}
