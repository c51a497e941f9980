package page_test

import (
	"hash/crc32"
	"math/rand/v2"
	"strings"
	"testing"

	"pentimento/api"
	"pentimento/page"
)

// number is n's bytes, the highest first.
func number(n uint64, size int) string {
	b := make([]byte, size)
	for i := range b {
		b[i] = byte(n >> (8 * (size - 1 - i)))
	}
	return string(b)
}

// numberAt is the number of so many bytes from at on.
func numberAt(s string, at, size int) uint64 {
	var n uint64
	for _, c := range []byte(s[at : at+size]) {
		n = n<<8 | uint64(c)
	}
	return n
}

// sealed is s, and its sum, the lowest byte first.
func sealed(s string) string {
	c := crc32.Checksum([]byte(s), crc32.MakeTable(crc32.Castagnoli))
	return s + string([]byte{byte(c), byte(c >> 8), byte(c >> 16), byte(c >> 24)})
}

// zeros is so many bytes 0.
func zeros(n int) string { return strings.Repeat("\x00", n) }

// plainHead is a head's bytes by the chapter's words.
func plainHead(p api.Page) string {
	return number(uint64(p.Kind), 1) + number(uint64(p.Level), 1) + number(uint64(p.Id), 4) + number(p.LSN, 8) + number(uint64(p.Next), 4) + zeros(2)
}

// plainArea is the bytes of an area of 488 bytes, into which the rows were put, one behind the other.
func plainArea(rows ...string) string {
	var dir, texts string
	for _, r := range rows {
		texts = r + texts
		dir += number(uint64(488-len(texts)), 2) + number(uint64(len(r)), 2)
	}
	dir = number(uint64(len(rows)), 2) + number(uint64(488-len(texts)), 2) + dir
	return dir + zeros(488-len(dir)-len(texts)) + texts
}

// plainBytes is a page's bytes by the chapter's words, sealed with the library's sum.
func plainBytes(p api.Page) string {
	return sealed(plainHead(p) + plainArea(p.Rows...))
}

// plainMay: whether it may be, by the chapter's words.
func plainMay(p api.Page) bool {
	n := 4
	for _, r := range p.Rows {
		n += 4 + len(r)
	}
	return p.Kind <= 5 && p.Id > 0 && p.Id < 1025 && p.Next < 1025 && n <= 488
}

// plainRead is the page that s might be: what stands in its head, and what its directory points at, if that is in the area.
func plainRead(s string) (api.Page, bool) {
	if len(s) != 512 {
		return api.Page{}, false
	}
	p := api.Page{
		Kind:  s[0],
		Level: s[1],
		Id:    uint32(numberAt(s, 2, 4)),
		LSN:   numberAt(s, 6, 8),
		Next:  uint32(numberAt(s, 14, 4)),
	}
	area := s[20:508]
	n := int(numberAt(area, 0, 2))
	if n > 121 {
		return api.Page{}, false
	}
	for i := range n {
		at, size := int(numberAt(area, 4+4*i, 2)), int(numberAt(area, 6+4*i, 2))
		if at+size > 488 {
			return api.Page{}, false
		}
		p.Rows = append(p.Rows, area[at:at+size])
	}
	return p, plainMay(p) && plainBytes(p) == s
}

// chance is a text of so many bytes.
func chance(r *rand.Rand, size int) string {
	b := make([]byte, size)
	for i := range b {
		b[i] = byte(r.IntN(256))
	}
	return string(b)
}

// chancePage is a page that may be, full to the last byte now and then.
func chancePage(r *rand.Rand) api.Page {
	p := api.Page{
		Kind:  uint8(r.IntN(6)),
		Level: uint8(r.IntN(256)),
		Id:    1 + uint32(r.IntN(1024)),
		LSN:   r.Uint64() >> r.IntN(64),
		Next:  uint32(r.IntN(1025)),
	}
	most := []int{0, 4, 20, 60, 480}[r.IntN(5)]
	room := 484
	for n := r.IntN(125); n > 0 && room >= 4; n-- {
		size := min(r.IntN(most+1), room-4)
		p.Rows = append(p.Rows, chance(r, size))
		room -= 4 + size
	}
	if room >= 4 && r.IntN(4) == 0 {
		p.Rows = append(p.Rows, chance(r, room-4))
	}
	return p
}

// sameForm fails, unless bytes are read just if the chapter's words let them be a page, and then as that.
func sameForm(t *testing.T, s string) bool {
	t.Helper()
	p, e := page.Decode(s)
	want, is := plainRead(s)
	switch {
	case is && (e != api.OK || !alike(p, want)):
		t.Fatalf("Decode(%q): %v, %v", s, p, e)
	case !is && (e != api.ErrPage || !alike(p, api.Page{})):
		t.Fatalf("Decode(%q), which is no page: %v, %v", s, p, e)
	}
	return is
}

// P6.1, P6.2, P6.4: pages by chance are written as the chapter says, and read as themselves.
func TestAsPlain(t *testing.T) {
	for seed := range uint64(2000) {
		p := chancePage(rand.New(rand.NewPCG(seed, 6)))
		s, e := page.Encode(p)
		if s != plainBytes(p) || e != api.OK || !page.May(p) {
			t.Fatalf("seed %d: Encode: %q, %v, not %q", seed, s, e, plainBytes(p))
		}
		q, e := page.Decode(s)
		if e != api.OK || !alike(p, q) || !page.Same(p, q) {
			t.Fatalf("seed %d: Decode: %v, %v, not %v", seed, q, e, p)
		}
	}
}

// P6.1: a further row of as many bytes as there is room for may come, and of no more; with no room not even an empty one.
func TestRoomAsPlain(t *testing.T) {
	var some, none int
	for seed := range uint64(3000) {
		p := chancePage(rand.New(rand.NewPCG(seed, 61)))
		n := page.Room(p)
		if n < -1 || n > 480 {
			t.Fatalf("seed %d: room %d", seed, n)
		}
		rows := p.Rows[:len(p.Rows):len(p.Rows)]
		p.Rows = append(rows, zeros(n+1))
		if page.May(p) || plainMay(p) {
			t.Fatalf("seed %d: room for more than %d", seed, n)
		}
		if n < 0 {
			none++
			continue
		}
		p.Rows = append(rows, zeros(n))
		if !page.May(p) || page.Room(p) != -1 {
			t.Fatalf("seed %d: room %d, then %d", seed, n, page.Room(p))
		}
		some++
	}
	if some < 500 || none < 500 {
		t.Errorf("%d with room, %d without", some, none)
	}
}

// P6.2: bytes that become other ones by chance are read just if they are a page's, whether they are sealed again or not.
func TestForms(t *testing.T) {
	var is, not int
	for seed := range uint64(20000) {
		r := rand.New(rand.NewPCG(seed, 62))
		s := plainBytes(chancePage(r))
		if !sameForm(t, s) {
			t.Fatalf("seed %d: %q", seed, s)
		}
		b := []byte(s)
		for range 1 + r.IntN(2) {
			b[r.IntN([]int{1, 6, 20, 60, 508}[r.IntN(5)])] += byte(r.IntN(5) - 2)
		}
		if r.IntN(8) == 0 {
			b[504+r.IntN(8)] ^= 1 << r.IntN(8)
			sameForm(t, string(b))
		}
		if sameForm(t, sealed(string(b[:508]))) {
			is++
		} else {
			not++
		}
	}
	if is < 2000 || not < 2000 {
		t.Errorf("%d are a page's, %d are not", is, not)
	}
}
