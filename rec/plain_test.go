package rec_test

import (
	"math/rand/v2"
	"reflect"
	"strings"
	"testing"

	"pentimento/api"
	"pentimento/rec"
)

// bytesOf is n's bytes, the highest first.
func bytesOf(n uint64, size int) string {
	b := make([]byte, size)
	for i := range b {
		b[i] = byte(n >> (8 * (size - 1 - i)))
	}
	return string(b)
}

// numberOf is the number whose bytes they are.
func numberOf(s string) uint64 {
	var n uint64
	for _, c := range []byte(s) {
		n = n<<8 | uint64(c)
	}
	return n
}

// zeros is so many bytes 0.
func zeros(n int) string { return strings.Repeat("\x00", n) }

// bare is r, without what a record of its kind has.
func bare(r api.Rec) api.Rec {
	kind := r.Kind
	r.Kind, r.Tx, r.Prev = 0, 0, 0
	switch kind {
	case 2:
		r.Roll, r.Body = api.Roll{}, ""
	case 3:
		r.Next, r.Body = 0, ""
	case 4:
		r.Number, r.Body = 0, ""
	case 6:
		r.Body = ""
	case 8:
		r.Tables = api.Tables{}
	}
	return r
}

// zero: whether it is nothing; lists may be nil or empty.
func zero(r api.Rec) bool {
	if len(r.Tables.Dirty) > 0 || len(r.Tables.Txns) > 0 {
		return false
	}
	r.Tables.Dirty, r.Tables.Txns = nil, nil
	return reflect.DeepEqual(r, api.Rec{})
}

// plainMay: whether it may be, by the chapter's words.
func plainMay(r api.Rec) bool {
	if r.Kind < 1 || r.Kind > 8 || !zero(bare(r)) {
		return false
	}
	if check := r.Kind == 7 || r.Kind == 8; check && r.Tx != 0 || !check && r.Kind != 6 && r.Tx == 0 {
		return false
	}
	if r.Tx == 0 && r.Prev != 0 {
		return false
	}
	if has := strings.ContainsRune("\x02\x03\x04\x06", rune(r.Kind)); has && (len(r.Body) < 1 || len(r.Body) > 3072) {
		return false
	}
	if r.Kind == 4 && r.Number < 1 || r.Roll.Page == 0 && r.Roll.Slot != 0 {
		return false
	}
	return r.Kind != 8 || plainMayTables(r.Tables)
}

// plainMayTables: whether a checkpoint's tables may be, by the chapter's words.
func plainMayTables(t api.Tables) bool {
	if len(t.Dirty) > 64 || len(t.Txns) > 64 || t.Tx < 1 || t.Number < 1 {
		return false
	}
	for i, d := range t.Dirty {
		if d.Page < 1 || d.From < 1 || i > 0 && t.Dirty[i-1].Page >= d.Page {
			return false
		}
	}
	for i, a := range t.Txns {
		if a.Tx < 1 || a.First < 1 || a.Last < 1 || i > 0 && t.Txns[i-1].Tx >= a.Tx {
			return false
		}
	}
	return true
}

// plainBytes is a record's bytes by the chapter's words; of one that may not be what would stand there.
func plainBytes(r api.Rec) string {
	s := string([]byte{r.Kind}) + bytesOf(r.Tx, 8) + bytesOf(r.Prev, 8)
	switch r.Kind {
	case 2:
		return s + bytesOf(uint64(r.Roll.Page), 4) + bytesOf(uint64(r.Roll.Slot), 2) + r.Body
	case 3:
		return s + bytesOf(r.Next, 8) + r.Body
	case 4:
		return s + bytesOf(r.Number, 8) + r.Body
	case 8:
		s += bytesOf(r.Tables.Tx, 8) + bytesOf(r.Tables.Number, 8) + bytesOf(uint64(len(r.Tables.Dirty)), 1)
		for _, d := range r.Tables.Dirty {
			s += bytesOf(uint64(d.Page), 4) + bytesOf(d.From, 8)
		}
		s += bytesOf(uint64(len(r.Tables.Txns)), 1)
		for _, a := range r.Tables.Txns {
			s += bytesOf(a.Tx, 8) + bytesOf(a.First, 8) + bytesOf(a.Last, 8) + bytesOf(a.Next, 8)
		}
	}
	return s + r.Body
}

// plainRead is the record whose bytes they are, by the chapter's words; false, if they are none's.
func plainRead(s string) (api.Rec, bool) {
	if len(s) < 17 {
		return api.Rec{}, false
	}
	r := api.Rec{Kind: s[0], Tx: numberOf(s[1:9]), Prev: numberOf(s[9:17])}
	rest := s[17:]
	switch {
	case r.Kind == 2 && len(rest) >= 6:
		r.Roll = api.Roll{Page: uint32(numberOf(rest[:4])), Slot: uint16(numberOf(rest[4:6]))}
		r.Body = rest[6:]
	case r.Kind == 3 && len(rest) >= 8:
		r.Next, r.Body = numberOf(rest[:8]), rest[8:]
	case r.Kind == 4 && len(rest) >= 8:
		r.Number, r.Body = numberOf(rest[:8]), rest[8:]
	case r.Kind == 6:
		r.Body = rest
	case r.Kind == 8:
		t, is := plainReadTables(rest)
		if !is {
			return api.Rec{}, false
		}
		r.Tables = t
	case rest != "":
		return api.Rec{}, false
	}
	if !plainMay(r) {
		return api.Rec{}, false
	}
	return r, true
}

// plainReadTables is the tables that have these bytes; false, if none have.
func plainReadTables(s string) (api.Tables, bool) {
	if len(s) < 17 {
		return api.Tables{}, false
	}
	t := api.Tables{Tx: numberOf(s[:8]), Number: numberOf(s[8:16])}
	n, s := int(s[16]), s[17:]
	if len(s) < 12*n+1 {
		return api.Tables{}, false
	}
	for ; n > 0; n-- {
		t.Dirty = append(t.Dirty, api.Dirty{Page: uint32(numberOf(s[:4])), From: numberOf(s[4:12])})
		s = s[12:]
	}
	n, s = int(s[0]), s[1:]
	if len(s) != 32*n {
		return api.Tables{}, false
	}
	for ; n > 0; n-- {
		t.Txns = append(t.Txns, api.Active{Tx: numberOf(s[:8]), First: numberOf(s[8:16]), Last: numberOf(s[16:24]), Next: numberOf(s[24:32])})
		s = s[32:]
	}
	return t, true
}

// plainSame: whether both are the same; lists may be nil or empty.
func plainSame(a, b api.Rec) bool {
	for _, t := range []*api.Tables{&a.Tables, &b.Tables} {
		t.Dirty = append([]api.Dirty{}, t.Dirty...)
		t.Txns = append([]api.Active{}, t.Txns...)
	}
	return reflect.DeepEqual(a, b)
}

// some is a number above 0 by chance, small ones more often.
func some(r *rand.Rand) uint64 {
	return max(1, r.Uint64()>>r.IntN(64))
}

// maybe is a number by chance, now and then 0.
func maybe(r *rand.Rand) uint64 {
	return some(r) * uint64(min(1, r.IntN(4)))
}

// chanceBody is a body that may be, as long as one may be now and then.
func chanceBody(r *rand.Rand) string {
	b := make([]byte, 1+r.IntN([]int{1, 9, 300, api.MaxBody}[r.IntN(4)]))
	for i := range b {
		b[i] = byte(r.IntN(256))
	}
	return string(b)
}

// chanceTables is tables that may be.
func chanceTables(r *rand.Rand) api.Tables {
	t := api.Tables{Tx: some(r), Number: some(r)}
	page := uint32(0)
	for range r.IntN([]int{1, 3, 65}[r.IntN(3)]) {
		page += 1 + r.Uint32()>>(7+r.IntN(25))
		t.Dirty = append(t.Dirty, api.Dirty{Page: page, From: some(r)})
	}
	tx := uint64(0)
	for range r.IntN([]int{1, 3, 65}[r.IntN(3)]) {
		tx += 1 + r.Uint64()>>(7+r.IntN(57))
		t.Txns = append(t.Txns, api.Active{Tx: tx, First: some(r), Last: some(r), Next: maybe(r)})
	}
	return t
}

// chanceRec is a record that may be.
func chanceRec(r *rand.Rand) api.Rec {
	x := api.Rec{Kind: uint8(1 + r.IntN(8))}
	if x.Kind < 6 || x.Kind == 6 && r.IntN(3) > 0 {
		x.Tx, x.Prev = some(r), maybe(r)
	}
	switch x.Kind {
	case 2:
		x.Body = chanceBody(r)
		if r.IntN(3) > 0 {
			x.Roll = api.Roll{Page: max(1, r.Uint32()>>r.IntN(32)), Slot: uint16(maybe(r))}
		}
	case 3:
		x.Next, x.Body = maybe(r), chanceBody(r)
	case 4:
		x.Number, x.Body = some(r), chanceBody(r)
	case 6:
		x.Body = chanceBody(r)
	case 8:
		x.Tables = chanceTables(r)
	}
	return x
}

// twisted is a record of which one field is another one, which may be or not.
func twisted(r *rand.Rand, x api.Rec) api.Rec {
	dirty := append([]api.Dirty{}, x.Tables.Dirty...)
	txns := append([]api.Active{}, x.Tables.Txns...)
	x.Tables.Dirty, x.Tables.Txns = dirty, txns
	switch r.IntN(14) {
	case 0:
		x.Kind = uint8(r.IntN(10))
	case 1:
		x.Tx = maybe(r)
	case 2:
		x.Prev = maybe(r)
	case 3:
		x.Roll.Page = uint32(maybe(r))
	case 4:
		x.Roll.Slot = uint16(maybe(r))
	case 5:
		x.Next = maybe(r)
	case 6:
		x.Number = maybe(r)
	case 7:
		x.Body = []string{"", "b", chanceBody(r), zeros(3071 + r.IntN(3))}[r.IntN(4)]
	case 8:
		x.Tables.Tx = maybe(r)
	case 9:
		x.Tables.Number = maybe(r)
	case 10:
		x.Tables.Dirty = append(dirty, api.Dirty{Page: uint32(some(r)), From: some(r)})
	case 11:
		x.Tables.Txns = append(txns, api.Active{Tx: some(r), First: some(r), Last: some(r)})
	case 12:
		if n := len(dirty); n > 0 {
			dirty[r.IntN(n)] = api.Dirty{Page: uint32(maybe(r)), From: maybe(r)}
		}
	default:
		if n := len(txns); n > 0 {
			txns[r.IntN(n)] = api.Active{Tx: maybe(r), First: maybe(r), Last: maybe(r), Next: maybe(r)}
		}
	}
	return x
}

// changed is s with one or two bytes that are other ones, and now and then some more, or some less.
func changed(r *rand.Rand, s string) string {
	b := []byte(s)
	for range 1 + r.IntN(2) {
		b[r.IntN([]int{1, len(b), min(35, len(b))}[r.IntN(3)])] += byte(r.IntN(5) - 2)
	}
	switch r.IntN(8) {
	case 0:
		b = b[:len(b)-1-r.IntN(len(b))]
	case 1:
		b = append(b, make([]byte, 1+r.IntN(33))...)
	}
	return string(b)
}

// sameForm fails, unless bytes are read just if the chapter's words let them be a record's, and then as that.
func sameForm(t *testing.T, s string) bool {
	t.Helper()
	r, e := rec.Decode(s)
	want, is := plainRead(s)
	switch {
	case is && (e != api.OK || !plainSame(r, want)):
		t.Fatalf("Decode(%q): %+v, %v, not %+v", s, r, e, want)
	case !is && (e != api.ErrForm || !zero(r)):
		t.Fatalf("Decode(%q), which is no record: %+v, %v", s, r, e)
	}
	if again, e := rec.Encode(r); is && (again != s || e != api.OK) {
		t.Fatalf("Decode(%q) is written as %q, %v", s, again, e)
	}
	return is
}

// asIs fails, unless a record may be just if the chapter's words let it, and is written and read accordingly.
func asIs(t *testing.T, what string, r api.Rec) bool {
	t.Helper()
	may := plainMay(r)
	if rec.May(r) != may {
		t.Fatalf("%s: %+v: may be: %v, not %v", what, r, rec.May(r), may)
	}
	s, e := rec.Encode(r)
	if !may {
		if s != "" || e != api.ErrArg {
			t.Fatalf("%s: %+v: Encode: %q, %v", what, r, s, e)
		}
		return false
	}
	plain := plainBytes(r)
	if s != plain || e != api.OK || len(s) > api.MaxRec {
		t.Fatalf("%s: %+v: Encode: %q, %v, not %q", what, r, s, e, plain)
	}
	if q, e := rec.Decode(plain); !plainSame(q, r) || e != api.OK {
		t.Fatalf("%s: Decode(%q): %+v, %v, not %+v", what, plain, q, e, r)
	}
	return true
}

// P9.1, P9.3: records by chance, and such of which one field is another one, may be, are written and are read as the chapter says.
func TestAsPlain(t *testing.T) {
	var is, not int
	for seed := range uint64(20000) {
		r := rand.New(rand.NewPCG(seed, 9))
		x := chanceRec(r)
		if !asIs(t, "by chance", x) {
			t.Fatalf("seed %d: %+v", seed, x)
		}
		if asIs(t, "twisted", twisted(r, x)) {
			is++
		} else {
			not++
		}
	}
	if is < 2000 || not < 2000 {
		t.Errorf("%d may be, %d may not", is, not)
	}
}

// P9.2, P9.3: bytes that become other ones by chance are read just if they are a record's.
func TestForms(t *testing.T) {
	var is, not int
	for seed := range uint64(30000) {
		r := rand.New(rand.NewPCG(seed, 91))
		s := plainBytes(chanceRec(r))
		if !sameForm(t, s) {
			t.Fatalf("seed %d: %q", seed, s)
		}
		if sameForm(t, changed(r, s)) {
			is++
		} else {
			not++
		}
		sameForm(t, plainBytes(twisted(r, chanceRec(r))))
	}
	if is < 3000 || not < 3000 {
		t.Errorf("%d are a record's, %d are not", is, not)
	}
}

// P9.1, P9.3: two records are the same just if they are, and have the same bytes just then.
func TestSameAsPlain(t *testing.T) {
	var is, not int
	for seed := range uint64(20000) {
		r := rand.New(rand.NewPCG(seed, 92))
		a := chanceRec(r)
		b := twisted(r, a)
		same := plainSame(a, b)
		if rec.Same(a, b) != same || rec.Same(b, a) != same || !rec.Same(a, a) || !rec.Same(b, b) {
			t.Fatalf("seed %d: %+v and %+v: same: %v", seed, a, b, rec.Same(a, b))
		}
		s, _ := rec.Encode(a)
		if q, e := rec.Encode(b); e == api.OK && (s == q) != same {
			t.Fatalf("seed %d: %+v and %+v: same: %v, their bytes: %v", seed, a, b, same, s == q)
		}
		if same {
			is++
		} else {
			not++
		}
		if undone := b.Kind == 2 && b.Roll.Page >= 1; rec.Undone(b) != undone {
			t.Fatalf("seed %d: %+v: undone: %v", seed, b, rec.Undone(b))
		}
	}
	if is < 500 || not < 500 {
		t.Errorf("%d are the same, %d are not", is, not)
	}
}
