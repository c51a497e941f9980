package master

import (
	"strings"

	"pentimento/api"
	"pentimento/sum"
	"pentimento/word"
)

const (
	form     = 1 // what a sector begins with
	clean    = 1 // what stands where it is clean, else 0
	formSize = 1
	longSize = 8 // of each of the numbers
	sumSize  = 4
)

// write: the sector of a master that may be.
func write(m api.Master) string {
	b := make([]byte, 0, api.SectorSize)
	b = append(b, form)
	for _, n := range numbers(&m) {
		part, _ := word.Put(*n, longSize)
		b = append(b, part...)
	}
	b = append(b, flag(m.Clean))
	rest := api.SectorSize - sumSize - len(b)
	return sum.Seal(string(b) + strings.Repeat("\x00", rest))
}

// read: what the parts of a sector tell, whether it is one or not.
func read(s string) api.Master {
	var m api.Master
	at := formSize
	for _, n := range numbers(&m) {
		*n, _ = word.Get(s, at, longSize)
		at += longSize
	}
	m.Clean = at < len(s) && s[at] == clean
	return m
}

// numbers: where m's numbers are kept, in the order in which they stand.
func numbers(m *api.Master) [4]*uint64 {
	return [4]*uint64{&m.Count, &m.Life, &m.Check, &m.First}
}

// flag: the byte by which it is told whether it is clean.
func flag(is bool) byte {
	if is {
		return clean
	}
	return 0
}
