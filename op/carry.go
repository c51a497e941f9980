package op

import "pentimento/word"

// writer writes what it is handed.
type writer struct {
	bytes []byte
}

func (w *writer) number(n uint64, size int) uint64 {
	s, _ := word.Put(n, size)
	w.bytes = append(w.bytes, s...)
	return n
}

func (w *writer) text(s string) string {
	w.number(uint64(len(s)), longSize)
	w.bytes = append(w.bytes, s...)
	return s
}

// reader answers what it reads.
type reader struct {
	bytes string
	at    int
	short bool // whether some bytes were wanting
}

func (r *reader) number(_ uint64, size int) uint64 {
	n, _ := word.Get(r.take(size), 0, size)
	return n
}

func (r *reader) text(string) string {
	return r.take(int(r.number(0, longSize)))
}

// take: the next bytes, so many.
func (r *reader) take(size int) string {
	s, is := word.Cut(r.bytes, r.at, size)
	r.at += len(s)
	r.short = r.short || !is
	return s
}

// cloth wipes out what it is handed: behind it there is left of an op what its kind has not.
type cloth struct{}

func (cloth) number(uint64, int) uint64 { return 0 }
func (cloth) text(string) string        { return "" }
