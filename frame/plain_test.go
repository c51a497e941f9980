package frame_test

import (
	"hash/crc32"
	"math"
	"math/big"
	"math/rand/v2"
	"slices"
	"testing"

	"pentimento/api"
	"pentimento/frame"
)

// bytesOf is n's bytes, the highest first.
func bytesOf(n uint64, size int) string {
	b := make([]byte, size)
	for i := range b {
		b[i] = byte(n >> (8 * (size - 1 - i)))
	}
	return string(b)
}

// sealOf is the bytes of a text's sum, the lowest first, by the library.
func sealOf(s string) string {
	c := crc32.Checksum([]byte(s), crc32.MakeTable(crc32.Castagnoli))
	return string([]byte{byte(c), byte(c >> 8), byte(c >> 16), byte(c >> 24)})
}

// plainFrame is the frame of s at lsn by the chapter's words, also of what may have none.
func plainFrame(lsn uint64, s string) string {
	head := bytesOf(uint64(len(s)), 2) + bytesOf(lsn, 8)
	return head + sealOf(head+s) + s
}

// told is what Decode answers.
type told struct {
	text string
	used int
	e    api.Errno
}

// plainDecode is what Decode is to answer, by the chapter's words. LSNs are numbers of any size here.
func plainDecode(s string, lsn *big.Int) told {
	if len(s) < 14 {
		return told{e: api.ErrEnd}
	}
	n := int(s[0])<<8 + int(s[1])
	place := new(big.Int).SetBytes([]byte(s[2:10]))
	if n == 0 || n > 4096 || place.Cmp(lsn) != 0 || lsn.Sign() == 0 {
		return told{e: api.ErrForm}
	}
	if len(s) < 14+n {
		return told{e: api.ErrEnd}
	}
	if s[10:14] != sealOf(s[:10]+s[14:14+n]) {
		return told{e: api.ErrSum}
	}
	return told{s[14 : 14+n], 14 + n, api.OK}
}

// plainScan is what Scan is to answer, by the chapter's words.
func plainScan(s string, from uint64) (l []string, used int, e api.Errno) {
	lsn := new(big.Int).SetUint64(from)
	for used < len(s) {
		f := plainDecode(s[used:], lsn)
		if f.e != api.OK {
			return l, used, f.e
		}
		l = append(l, f.text)
		used += f.used
		lsn.Add(lsn, big.NewInt(int64(f.used)))
	}
	return l, used, api.OK
}

// decodes fails, unless Decode answers by the chapter's words; which error it is, is told.
func decodes(t *testing.T, s string, lsn uint64) api.Errno {
	t.Helper()
	text, used, e := frame.Decode(s, lsn)
	if got, want := (told{text, used, e}), plainDecode(s, new(big.Int).SetUint64(lsn)); got != want {
		t.Fatalf("Decode(%q, %d): %+v, not %+v", s, lsn, got, want)
	}
	return e
}

// scans fails, unless Scan answers by the chapter's words; which error it is, is told.
func scans(t *testing.T, s string, lsn uint64) api.Errno {
	t.Helper()
	l, used, e := frame.Scan(s, lsn)
	m, want, f := plainScan(s, lsn)
	if !slices.Equal(l, m) || used != want || e != f {
		t.Fatalf("Scan(%q, %d): %q, %d, %v, not %q, %d, %v", s, lsn, l, used, e, m, want, f)
	}
	return e
}

// chanceText is a record's bytes by chance, now and then as many as may be.
func chanceText(r *rand.Rand) string {
	b := make([]byte, 1+r.IntN([]int{1, 3, 40, 600, 4096}[r.IntN(5)]))
	if r.IntN(20) == 0 {
		b = make([]byte, 4095+r.IntN(2))
	}
	for i := range b {
		b[i] = byte(r.IntN(256))
	}
	return string(b)
}

// chanceLSN is an LSN by chance, now and then near the last one.
func chanceLSN(r *rand.Rand) uint64 {
	if r.IntN(4) == 0 {
		return math.MaxUint64 - r.Uint64N(10000)
	}
	return max(1, r.Uint64()>>r.IntN(64))
}

// chanceRow is frames one behind the other, at most six; behind the last LSN that there is they go on from 0 on.
func chanceRow(r *rand.Rand, lsn uint64) string {
	s := ""
	for range r.IntN(7) {
		s += plainFrame(lsn+uint64(len(s)), chanceText(r))
	}
	return s
}

// changed is s with a byte that is another one, or cut, or longer, or with a frame of a LSN by chance behind.
func changed(r *rand.Rand, s string) string {
	b := []byte(s)
	if len(b) > 0 && r.IntN(3) > 0 {
		b[r.IntN([]int{len(b), min(14, len(b))}[r.IntN(2)])] += byte(1 + r.IntN(255))
	}
	switch r.IntN(5) {
	case 0:
		b = b[:r.IntN(len(b)+1)]
	case 1:
		b = append(b, make([]byte, r.IntN(33))...)
	case 2:
		b = append(b, plainFrame(r.Uint64N(300), chanceText(r))...)
	}
	return string(b)
}

// P10.1, P10.2: frames by chance are written and read as the chapter says.
func TestFramesAsPlain(t *testing.T) {
	for seed := range uint64(8000) {
		r := rand.New(rand.NewPCG(seed, 10))
		lsn, text := chanceLSN(r), chanceText(r)
		s, e := frame.Encode(lsn, text)
		if want := plainFrame(lsn, text); s != want || e != api.OK || len(s) != frame.Size(len(text)) {
			t.Fatalf("Encode(%d, %q): %q, %v, not %q", lsn, text, s, e, want)
		}
		if e := decodes(t, s, lsn); e != api.OK {
			t.Fatalf("Decode(%q, %d): %v", s, lsn, e)
		}
		decodes(t, s, lsn+1)
		decodes(t, changed(r, s), lsn)
	}
}

// P10.2, P10.3: rows of frames by chance, also such as are changed, are scanned as the chapter says.
func TestRowsAsPlain(t *testing.T) {
	many := map[api.Errno]int{}
	for seed := range uint64(8000) {
		r := rand.New(rand.NewPCG(seed, 101))
		lsn := chanceLSN(r)
		s := chanceRow(r, lsn)
		e := scans(t, s, lsn)
		if lsn < 1<<63 && e != api.OK {
			t.Fatalf("Scan(%q, %d): %v", s, lsn, e)
		}
		many[scans(t, changed(r, s), lsn)]++
	}
	for _, e := range []api.Errno{api.OK, api.ErrEnd, api.ErrForm, api.ErrSum} {
		if many[e] < 300 {
			t.Errorf("of rows that are changed %d alone have %v", many[e], e)
		}
	}
}
