package row_test

import (
	"math/rand/v2"
	"strings"
	"testing"

	"pentimento/api"
	"pentimento/row"
)

// bytesOf is n's bytes, the highest first.
func bytesOf(n uint64, size int) string {
	b := make([]byte, size)
	for i := range b {
		b[i] = byte(n >> (8 * (size - 1 - i)))
	}
	return string(b)
}

// numberOf is the number whose bytes they are.
func numberOf(s string) uint64 {
	var n uint64
	for _, c := range []byte(s) {
		n = n<<8 | uint64(c)
	}
	return n
}

// zeros is so many bytes 0.
func zeros(n int) string { return strings.Repeat("\x00", n) }

// plainMay: whether it may be, by the chapter's words.
func plainMay(r api.Row) bool {
	switch {
	case r.Key == "", len(r.Key) > 48:
		return false
	case len(r.Value) > 96, r.Pad > 96, r.Pad < 0, len(r.Value)+r.Pad > 96:
		return false
	case r.Roll.Page > 1024:
		return false
	}
	return r.Roll.Page != 0 || r.Roll.Slot == 0
}

// plainBytes is a row's bytes by the chapter's words; of one that may not be what would stand there, as far as a pad below 0 lets it.
func plainBytes(r api.Row) string {
	s := "\x00"
	if r.Mark {
		s = "\x01"
	}
	s += bytesOf(r.Tx, 8) + bytesOf(uint64(r.Roll.Page), 4) + bytesOf(uint64(r.Roll.Slot), 2)
	s += bytesOf(uint64(len(r.Key)), 1) + r.Key + bytesOf(uint64(len(r.Value)), 1) + r.Value
	return s + zeros(max(0, min(r.Pad, 1<<12)))
}

// plainRead is the row whose bytes they are, by the chapter's words; false, if they are none's.
func plainRead(s string) (api.Row, bool) {
	if len(s) < 16 || s[0] > 1 {
		return api.Row{}, false
	}
	r := api.Row{Mark: s[0] == 1, Tx: numberOf(s[1:9])}
	r.Roll = api.Roll{Page: uint32(numberOf(s[9:13])), Slot: uint16(numberOf(s[13:15]))}
	n, rest := int(s[15]), s[16:]
	if len(rest) < n+1 {
		return api.Row{}, false
	}
	r.Key = rest[:n]
	n, rest = int(rest[n]), rest[n+1:]
	if len(rest) < n {
		return api.Row{}, false
	}
	r.Value, r.Pad = rest[:n], len(rest)-n
	if rest[n:] != zeros(r.Pad) || !plainMay(r) {
		return api.Row{}, false
	}
	return r, true
}

// plainEntry is an entry's bytes by the chapter's words.
func plainEntry(e api.Entry) string { return bytesOf(uint64(e.Child), 4) + e.Key }

// plainReadEntry is the entry whose bytes they are; false, if they are none's.
func plainReadEntry(s string) (api.Entry, bool) {
	if len(s) < 4 || len(s) > 52 || numberOf(s[:4]) < 1 || numberOf(s[:4]) > 1024 {
		return api.Entry{}, false
	}
	return api.Entry{Key: s[4:], Child: uint32(numberOf(s[:4]))}, true
}

// chance is a text of so many bytes, now and then of 0 alone.
func chance(r *rand.Rand, size int) string {
	b := make([]byte, size)
	if r.IntN(4) > 0 {
		for i := range b {
			b[i] = byte(r.IntN(256))
		}
	}
	return string(b)
}

// chanceRow is a row that may be, as long as one may be now and then.
func chanceRow(r *rand.Rand) api.Row {
	x := api.Row{
		Key:   chance(r, 1+r.IntN([]int{1, 8, 48}[r.IntN(3)])),
		Mark:  r.IntN(2) == 0,
		Tx:    r.Uint64() >> r.IntN(64),
		Value: chance(r, r.IntN([]int{1, 9, 97}[r.IntN(3)])),
	}
	if r.IntN(3) > 0 {
		x.Roll = api.Roll{Page: 1 + uint32(r.IntN(1024)), Slot: uint16(r.IntN(1 << 16))}
	}
	room := 96 - len(x.Value)
	x.Pad = []int{0, room, r.IntN(room + 1)}[r.IntN(3)]
	return x
}

// sameForm fails, unless bytes are read just if the chapter's words let them be a row's, and then as that.
func sameForm(t *testing.T, s string) bool {
	t.Helper()
	r, e := row.Decode(s)
	want, is := plainRead(s)
	switch {
	case is && (e != api.OK || r != want):
		t.Fatalf("Decode(%q): %+v, %v, not %+v", s, r, e, want)
	case !is && (e != api.ErrForm || r != api.Row{}):
		t.Fatalf("Decode(%q), which is no row: %+v, %v", s, r, e)
	}
	if again, e := row.Encode(r); is && (again != s || e != api.OK) {
		t.Fatalf("Decode(%q) is written as %q, %v", s, again, e)
	}
	return is
}

// sameEntry fails, unless bytes are read just if the chapter's words let them be an entry's, and then as that.
func sameEntry(t *testing.T, s string) bool {
	t.Helper()
	x, e := row.DecodeEntry(s)
	want, is := plainReadEntry(s)
	switch {
	case is && (e != api.OK || x != want):
		t.Fatalf("DecodeEntry(%q): %+v, %v, not %+v", s, x, e, want)
	case !is && (e != api.ErrForm || x != api.Entry{}):
		t.Fatalf("DecodeEntry(%q), which is no entry: %+v, %v", s, x, e)
	}
	if again, e := row.EncodeEntry(x); is && (again != s || e != api.OK) {
		t.Fatalf("DecodeEntry(%q) is written as %q, %v", s, again, e)
	}
	return is
}

// changed is s with one or two bytes that are other ones, and now and then one more, or one less.
func changed(r *rand.Rand, s string) string {
	b := []byte(s)
	for range 1 + r.IntN(2) {
		b[r.IntN([]int{1, len(b), min(18, len(b))}[r.IntN(3)])] += byte(r.IntN(5) - 2)
	}
	switch r.IntN(6) {
	case 0:
		b = b[:len(b)-1-r.IntN(len(b))]
	case 1:
		b = append(b, byte(r.IntN(2)))
	}
	return string(b)
}

// P7.1, P7.3: rows by chance are written as the chapter says, and read as themselves.
func TestAsPlain(t *testing.T) {
	for seed := range uint64(20000) {
		r := chanceRow(rand.New(rand.NewPCG(seed, 7)))
		want := plainBytes(r)
		if s, e := row.Encode(r); s != want || e != api.OK || !row.May(r) || row.Size(r) != len(want) {
			t.Fatalf("seed %d: %+v: Encode: %q, %v, not %q; size %d", seed, r, s, e, want, row.Size(r))
		}
		if q, e := row.Decode(want); q != r || e != api.OK {
			t.Fatalf("seed %d: Decode(%q): %+v, %v, not %+v", seed, want, q, e, r)
		}
	}
}

// P7.1, P7.3: bytes that become other ones by chance are read just if they are a row's.
func TestForms(t *testing.T) {
	var is, not int
	for seed := range uint64(50000) {
		r := rand.New(rand.NewPCG(seed, 71))
		s := plainBytes(chanceRow(r))
		if !sameForm(t, s) {
			t.Fatalf("seed %d: %q", seed, s)
		}
		if sameForm(t, changed(r, s)) {
			is++
		} else {
			not++
		}
	}
	if is < 5000 || not < 5000 {
		t.Errorf("%d are a row's, %d are not", is, not)
	}
}

// P7.1, P7.3: each byte of some rows becomes each other one.
func TestEachByte(t *testing.T) {
	for _, r := range []api.Row{
		{Key: "k"},
		{Key: "a", Value: "xy", Pad: 1},
		{Key: "key", Mark: true, Tx: 1 << 40, Roll: api.Roll{Page: 1, Slot: 1}, Value: zeros(3), Pad: 4},
		{Key: zeros(48), Roll: api.Roll{Page: 1024, Slot: 1 << 15}, Value: zeros(96)},
		{Key: zeros(5), Tx: 1, Pad: 96},
	} {
		s := plainBytes(r)
		for at := range len(s) {
			for c := range 256 {
				sameForm(t, s[:at]+string([]byte{byte(c)})+s[at+1:])
			}
		}
	}
}

// P7.2, P7.3: bytes by chance are read just if they are an entry's.
func TestEntryForms(t *testing.T) {
	var is, not int
	for seed := range uint64(20000) {
		r := rand.New(rand.NewPCG(seed, 72))
		e := api.Entry{Key: chance(r, r.IntN(49)), Child: 1 + uint32(r.IntN(1024))}
		if !sameEntry(t, plainEntry(e)) {
			t.Fatalf("seed %d: %+v", seed, e)
		}
		if sameEntry(t, changed(r, plainEntry(e))) {
			is++
		} else {
			not++
		}
	}
	if is < 2000 || not < 2000 {
		t.Errorf("%d are an entry's, %d are not", is, not)
	}
}
