package log

import (
	"strings"

	"pentimento/api"
	"pentimento/disk"
	"pentimento/word"
)

// How many bytes the numbers ahead of a sector's bytes of the log have.
const (
	lsnSize  = 8
	lifeSize = 8
	manySize = 2
)

// sector is an array, so that what isn't laid into it is bytes 0.
type sector [api.SectorSize]byte

// ring is the sectors that the stretches have by turns.
type ring struct {
	d     *disk.Disk
	at, n int
}

// piece is what a sector tells, whosever it is.
type piece struct {
	lsn, life uint64
	text      string
}

// may: whether there is such a ring on the disk.
func (r ring) may() bool {
	return r.at >= 0 && r.n >= api.MinLog && r.n <= api.MaxLog && r.at <= r.d.Len()-r.n
}

// place: the k-th stretch's sector.
func (r ring) place(k uint64) int {
	return r.at + int(k%uint64(r.n))
}

// write: the k-th stretch's sector has these bytes of it.
func (r ring) write(k, life uint64, text []byte) api.Errno {
	lsn, _ := word.Put(beginning(k), lsnSize)
	whose, _ := word.Put(life, lifeSize)
	many, _ := word.Put(uint64(len(text)), manySize)
	var s sector
	used := copy(s[:], lsn+whose+many)
	copy(s[used:], text)
	return r.d.Write(r.place(k), string(s[:]))
}

// stream: the bytes that the disk has from the k-th stretch on, for a life; of no more stretches than there are sectors, since behind these the first one comes again, which is one stretch's alone.
func (r ring) stream(k, life uint64) (string, api.Errno) {
	var b strings.Builder
	var least uint64
walk:
	for i := k; i < k+uint64(r.n); i++ {
		s, e := r.d.Read(r.place(i))
		if e != api.OK {
			return "", e
		}
		p := read(s)
		switch {
		case p.lsn != beginning(i):
			break walk // an elder lap's
		case p.life < least || p.life > life:
			break walk // what an elder life left behind a stretch that was written again since
		}
		b.WriteString(p.text)
		if len(p.text) < api.LogRoom {
			break walk
		}
		least = p.life
	}
	return b.String(), api.OK
}

// read: what a sector tells. It has no bytes of the log, if there are more of them than a sector has room for.
func read(s string) piece {
	var p piece
	p.lsn, _ = word.Get(s, 0, lsnSize)
	p.life, _ = word.Get(s, lsnSize, lifeSize)
	many, _ := word.Get(s, lsnSize+lifeSize, manySize)
	p.text, _ = word.Cut(s, api.LogHead, int(many))
	return p
}

// stretch: which stretch has the LSN.
func stretch(lsn uint64) uint64 {
	return lsn / api.LogRoom
}

// beginning: the LSN of the k-th stretch's first byte.
func beginning(k uint64) uint64 {
	return k * api.LogRoom
}
