// Package word has numbers in bytes, the highest first, and pieces of texts.
package word

import "strings"

const (
	most = 8       // bytes of a number
	top  = 1 << 62 // what Up answers is not above it
)

// Put: n's bytes.
func Put(n uint64, size int) (string, bool) {
	if !may(size) || n>>(8*size) != 0 {
		return "", false
	}
	var b [most]byte
	for i := range b {
		b[most-1-i] = byte(n >> (8 * i))
	}
	return string(b[most-size:]), true
}

// Get: the number whose bytes stand there.
func Get(s string, at, size int) (uint64, bool) {
	if !may(size) || !has(s, at, size) {
		return 0, false
	}
	var n uint64
	for i := range size {
		n = n<<8 | uint64(s[at+i])
	}
	return n, true
}

// Cut: a piece of s. It is copied, so that a short piece doesn't keep a long text in memory.
func Cut(s string, at, size int) (string, bool) {
	if !has(s, at, size) {
		return "", false
	}
	return strings.Clone(s[at : at+size]), true
}

// Set: s with another piece. It goes by way of bytes, since pieces that are joined by + may come out as one of them, shared, when the others are empty.
func Set(s string, at int, part string) (string, bool) {
	if !has(s, at, len(part)) {
		return "", false
	}
	b := []byte(s)
	copy(b[at:], part)
	return string(b), true
}

// Up: n, rounded up to a multiple.
func Up(n, to int) int {
	if n < 1 || to < 1 || n > top-to {
		return 0
	}
	return (n + to - 1) / to * to
}

// may: whether a number may have so many bytes.
func may(size int) bool {
	return size >= 1 && size <= most
}

// has: whether s has size bytes from at on. It takes no sum of both, which could wrap round.
func has(s string, at, size int) bool {
	return at >= 0 && size >= 0 && size <= len(s)-at
}
