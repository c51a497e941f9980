package op_test

import (
	"math/rand/v2"
	"slices"
	"testing"

	"pentimento/api"
	"pentimento/op"
)

// bytesOf is n's bytes, the highest first.
func bytesOf(n, size int) string {
	b := make([]byte, size)
	for i := range b {
		b[i] = byte(n >> (8 * (size - 1 - i)))
	}
	return string(b)
}

// textOf is how many bytes a text has, and it.
func textOf(s string) string { return bytesOf(len(s), 2) + s }

// plainOp is an op's bytes by the chapter's words, also of one that may not be, if its kind is one.
func plainOp(o api.Op) string {
	head := bytesOf(int(o.Kind), 1) + bytesOf(int(o.Page), 4)
	at, off, text := bytesOf(o.At, 2), bytesOf(o.Off, 2), textOf(o.Text)
	rows := bytesOf(len(o.Rows), 2)
	for _, r := range o.Rows {
		rows += textOf(r)
	}
	next := bytesOf(int(o.Next), 4)
	format := bytesOf(int(o.PKind), 1) + bytesOf(int(o.Level), 1) + next
	return head + [...]string{"", format, at + text, at + text, at, at, rows, next, at + off + text}[o.Kind]
}

// plainList is a list's bytes by the chapter's words.
func plainList(l ...api.Op) string {
	s := bytesOf(len(l), 1)
	for _, o := range l {
		s += plainOp(o)
	}
	return s
}

// plainMay: whether it may be, by the chapter's words.
func plainMay(o api.Op) bool {
	if o.Kind < 1 || o.Kind > 8 {
		return false
	}
	has := map[string][]uint8{
		"At": {2, 3, 4, 5, 8}, "Off": {8}, "Text": {2, 3, 8}, "Rows": {6}, "PKind": {1}, "Level": {1}, "Next": {1, 7},
	}
	some := map[string]bool{
		"At": o.At != 0, "Off": o.Off != 0, "Text": o.Text != "", "Rows": len(o.Rows) > 0, "PKind": o.PKind != 0, "Level": o.Level != 0, "Next": o.Next != 0,
	}
	for part, is := range some {
		if is && !slices.Contains(has[part], o.Kind) {
			return false
		}
	}
	n := len(o.Text)
	for _, r := range o.Rows {
		n += len(r)
	}
	within := func(n, from, to int) bool { return n >= from && n <= to }
	return within(int(o.Page), 1, 1024) && within(int(o.Next), 0, 1024) && within(o.At, 0, 488) && within(o.Off, 0, 488) &&
		within(n, 0, 488) && within(len(o.Rows), 0, 488) && within(int(o.PKind), 0, 5)
}

// plainRead is the list that s might be, read from its first byte to its last one by the place of each.
func plainRead(s string) (l []api.Op, is bool) {
	at := 0
	number := func(size int) int {
		n := 0
		for range size {
			n = n<<8 + int(s[at]) // beyond the last byte it is left by a panic
			at++
		}
		return n
	}
	text := func() string {
		n := number(2)
		at += n
		return s[at-n : at]
	}
	defer func() {
		if recover() != nil {
			l, is = nil, false
		}
	}()
	for range number(1) {
		o := api.Op{Kind: uint8(number(1)), Page: uint32(number(4))}
		switch o.Kind {
		case 1:
			o.PKind, o.Level, o.Next = uint8(number(1)), uint8(number(1)), uint32(number(4))
		case 2, 3:
			o.At, o.Text = number(2), text()
		case 4, 5:
			o.At = number(2)
		case 6:
			for range number(2) {
				o.Rows = append(o.Rows, text())
			}
		case 7:
			o.Next = uint32(number(4))
		case 8:
			o.At, o.Off, o.Text = number(2), number(2), text()
		}
		if !plainMay(o) {
			return nil, false
		}
		l = append(l, o)
	}
	if at != len(s) || len(l) > 32 {
		return nil, false
	}
	return l, true
}

// plainPage: whether a page may be, by the words of its chapter.
func plainPage(p api.Page) bool {
	return p.Kind <= 5 && p.Id > 0 && p.Id < 1025 && p.Next < 1025 && plainRoom(p)
}

// plainRoom: whether its rows have room.
func plainRoom(p api.Page) bool {
	n := 4
	for _, r := range p.Rows {
		n += 4 + len(r)
	}
	return n <= 488
}

// plainApply is what Apply is to answer, by the chapter's words.
func plainApply(p api.Page, o api.Op, lsn uint64) (api.Page, api.Errno) {
	if !plainMay(o) || o.Kind != 1 && (!plainPage(p) || p.Id != o.Page) {
		return api.Page{}, api.ErrArg
	}
	rows := []string{}
	rows = append(rows, p.Rows...)
	last := len(rows)
	if slices.Contains([]uint8{3, 4, 8}, o.Kind) {
		last--
	}
	if slices.Contains([]uint8{2, 3, 4, 5, 8}, o.Kind) && o.At > last {
		return api.Page{}, api.ErrNone
	}
	switch o.Kind {
	case 1:
		p = api.Page{Kind: o.PKind, Level: o.Level, Id: o.Page, Next: o.Next}
		rows = nil
	case 2:
		rows = append(rows, "")
		for i := len(rows) - 1; i > o.At; i-- {
			rows[i] = rows[i-1]
		}
		rows[o.At] = o.Text
	case 3:
		rows[o.At] = o.Text
	case 4:
		for i := o.At; i+1 < len(rows); i++ {
			rows[i] = rows[i+1]
		}
		rows = rows[:len(rows)-1]
	case 5:
		rows = rows[:o.At]
	case 6:
		rows = append(rows, o.Rows...)
	case 7:
		p.Next = o.Next
	case 8:
		row := []byte(rows[o.At])
		if o.Off+len(o.Text) > len(row) {
			return api.Page{}, api.ErrArg
		}
		for i := range len(o.Text) {
			row[o.Off+i] = o.Text[i]
		}
		rows[o.At] = string(row)
	}
	p.Rows, p.LSN = rows, lsn
	if !plainRoom(p) {
		return api.Page{}, api.ErrFull
	}
	return p, api.OK
}

// plainRedo is what Redo is to answer, by the chapter's words.
func plainRedo(p api.Page, lsn uint64, l ...api.Op) (api.Page, api.Errno) {
	if p.LSN >= lsn {
		return p, api.OK
	}
	was := p
	for _, o := range l {
		if o.Page == was.Id {
			q, e := plainApply(p, o, lsn)
			if e != api.OK {
				return was, e
			}
			p = q
		}
	}
	return p, api.OK
}

// chanceText is a text by chance.
func chanceText(r *rand.Rand, size int) string {
	b := make([]byte, size)
	for i := range b {
		b[i] = byte(r.IntN(256))
	}
	return string(b)
}

// chanceSize is how many bytes a text has by chance, mostly few.
func chanceSize(r *rand.Rand) int {
	return r.IntN([]int{1, 3, 12, 60, 489}[r.IntN(5)])
}

// chanceRows is rows by chance that have no more than so many bytes in an area.
func chanceRows(r *rand.Rand, room int) []string {
	var l []string
	for range r.IntN([]int{1, 4, 30, 122}[r.IntN(4)]) {
		n := min(chanceSize(r), room-4)
		if n < 0 {
			break
		}
		l = append(l, chanceText(r, n))
		room -= 4 + n
	}
	if r.IntN(5) == 0 && room >= 4 {
		l = append(l, chanceText(r, room-4))
	}
	return l
}

// chancePage is a page of that number that may be.
func chancePage(r *rand.Rand, id uint32) api.Page {
	return api.Page{
		Kind:  uint8(r.IntN(6)),
		Level: uint8(r.IntN(256)),
		Id:    id,
		LSN:   r.Uint64N(1000),
		Next:  uint32(r.IntN(1025)),
		Rows:  chanceRows(r, 484),
	}
}

// chanceOp is an op that may be, on a page that has so many rows.
func chanceOp(r *rand.Rand, id uint32, rows int) api.Op {
	o := api.Op{Kind: uint8(1 + r.IntN(8)), Page: id}
	at := r.IntN(rows + 2)
	switch o.Kind {
	case 1:
		o.PKind, o.Level, o.Next = uint8(r.IntN(6)), uint8(r.IntN(256)), uint32(r.IntN(1025))
	case 2, 3:
		o.At, o.Text = at, chanceText(r, chanceSize(r))
	case 4, 5:
		o.At = at
	case 6:
		o.Rows = chanceRows(r, 484)
	case 7:
		o.Next = uint32(r.IntN(1025))
	case 8:
		o.At, o.Off, o.Text = at, chanceSize(r), chanceText(r, min(chanceSize(r), chanceSize(r)))
	}
	return o
}

// bent is the op with a part that may have become what it may not be, or what its kind has not.
func bent(r *rand.Rand, o api.Op) api.Op {
	switch r.IntN(9) {
	case 0:
		o.Kind = uint8(r.IntN(12))
	case 1:
		o.Page = uint32(1020+r.IntN(9)) * uint32(r.IntN(2))
	case 2:
		o.At = r.IntN(494) - 3
	case 3:
		o.Off = r.IntN(494) - 3
	case 4:
		o.Text = chanceText(r, r.IntN(494))
	case 5:
		o.Rows = append(slices.Clone(o.Rows), chanceText(r, r.IntN(494)))
	case 6:
		o.PKind = uint8(r.IntN(8))
	case 7:
		o.Level = uint8(r.IntN(3))
	case 8:
		o.Next = uint32(r.IntN(1028))
	}
	return o
}

// chanceList is a list of ops by chance, which may all be, now and then as many as may be.
func chanceList(r *rand.Rand) []api.Op {
	n := r.IntN([]int{2, 5, 33}[r.IntN(3)])
	l := make([]api.Op, n)
	for i := range l {
		l[i] = chanceOp(r, 1+uint32(r.IntN(1024)), 130)
	}
	return l
}

// changed is s with bytes that are other ones, or cut, or longer.
func changed(r *rand.Rand, s string) string {
	b := []byte(s)
	for range r.IntN(3) {
		b[r.IntN([]int{len(b), min(14, len(b))}[r.IntN(2)])] += byte(r.IntN(5) - 2)
	}
	switch r.IntN(6) {
	case 0:
		b = b[:r.IntN(len(b)+1)]
	case 1:
		b = append(b, make([]byte, r.IntN(12))...)
	}
	return string(b)
}

// reads fails, unless Decode answers by the chapter's words; whether it is a list is told.
func reads(t *testing.T, s string) bool {
	t.Helper()
	l, e := op.Decode(s)
	want, is := plainRead(s)
	switch {
	case is && (e != api.OK || !slices.EqualFunc(l, want, alike)):
		t.Fatalf("Decode(%q): %v, %v, not %v", s, l, e, want)
	case !is && (e != api.ErrForm || len(l) > 0):
		t.Fatalf("Decode(%q), which is no list: %v, %v", s, l, e)
	}
	return is
}

// P11.1: ops by chance may be, or not, as the chapter says.
func TestMayAsPlain(t *testing.T) {
	var may, not int
	for seed := range uint64(30000) {
		r := rand.New(rand.NewPCG(seed, 11))
		o := chanceOp(r, 1+uint32(r.IntN(1024)), 130)
		if !op.May(o) || !plainMay(o) {
			t.Fatalf("seed %d: %v may not be", seed, o)
		}
		o = bent(r, o)
		if op.May(o) != plainMay(o) {
			t.Fatalf("seed %d: %v: %v", seed, o, op.May(o))
		}
		if s, e := op.Encode(o); plainMay(o) && (s != plainList(o) || e != api.OK) || !plainMay(o) && (s != "" || e != api.ErrArg) {
			t.Fatalf("seed %d: Encode(%v): %q, %v", seed, o, s, e)
		}
		if op.May(o) {
			may++
		} else {
			not++
		}
	}
	if may < 5000 || not < 5000 {
		t.Errorf("%d may be, %d may not", may, not)
	}
}

// P11.1, P11.4: lists by chance are written as the chapter says, and read as themselves; bytes that are changed are read just if they are a list's.
func TestListsAsPlain(t *testing.T) {
	var is, not int
	for seed := range uint64(20000) {
		r := rand.New(rand.NewPCG(seed, 111))
		l := chanceList(r)
		s, e := op.Encode(l...)
		if s != plainList(l...) || e != api.OK {
			t.Fatalf("seed %d: Encode(%v): %q, %v", seed, l, s, e)
		}
		if back, e := op.Decode(s); e != api.OK || !slices.EqualFunc(l, back, alike) || !slices.EqualFunc(l, back, op.Same) {
			t.Fatalf("seed %d: Decode(%q): %v, %v", seed, s, back, e)
		}
		if reads(t, changed(r, s)) {
			is++
		} else {
			not++
		}
	}
	if is < 3000 || not < 3000 {
		t.Errorf("%d are lists, %d are not", is, not)
	}
}

// P11.2: ops by chance, also such as may not be, are done to pages by chance, also such as may not be, as the chapter says.
func TestApplyAsPlain(t *testing.T) {
	many := map[uint8]map[api.Errno]int{}
	for seed := range uint64(60000) {
		r := rand.New(rand.NewPCG(seed, 112))
		id := 1 + uint32(r.IntN(1024))
		p := chancePage(r, id)
		o := chanceOp(r, id, len(p.Rows))
		lsn := r.Uint64() >> r.IntN(64)
		switch r.IntN(8) {
		case 0:
			o = bent(r, o)
		case 1:
			p.Id = 1 + uint32(r.IntN(1026))
		case 2:
			p.Kind = uint8(r.IntN(8))
		case 3:
			p.Rows = append(p.Rows, chanceText(r, r.IntN(60)))
		}
		got, e := op.Apply(p, o, lsn)
		want, f := plainApply(p, o, lsn)
		if e != f || !samePage(got, want) {
			t.Fatalf("seed %d: Apply(%v, %v, %d): %v, %v, not %v, %v", seed, p, o, lsn, got, e, want, f)
		}
		if many[o.Kind] == nil {
			many[o.Kind] = map[api.Errno]int{}
		}
		many[o.Kind][e]++
	}
	for kind, l := range map[uint8][]api.Errno{
		api.OpFormat: {api.OK, api.ErrArg},
		api.OpPut:    {api.OK, api.ErrArg, api.ErrNone, api.ErrFull},
		api.OpSet:    {api.OK, api.ErrArg, api.ErrNone, api.ErrFull},
		api.OpDrop:   {api.OK, api.ErrArg, api.ErrNone},
		api.OpCut:    {api.OK, api.ErrArg, api.ErrNone},
		api.OpFill:   {api.OK, api.ErrArg, api.ErrFull},
		api.OpNext:   {api.OK, api.ErrArg},
		api.OpPatch:  {api.OK, api.ErrArg, api.ErrNone},
	} {
		for _, e := range l {
			if many[kind][e] < 90 {
				t.Errorf("ops of kind %d have %v %d times alone", kind, e, many[kind][e])
			}
		}
	}
}

// P11.3: lists by chance are done again to pages by chance as the chapter says.
func TestRedoAsPlain(t *testing.T) {
	var some, none, wrong int
	for seed := range uint64(20000) {
		r := rand.New(rand.NewPCG(seed, 113))
		ids := []uint32{7, 8, 9}
		p := chancePage(r, ids[r.IntN(3)])
		var l []api.Op
		for range r.IntN(12) {
			o := chanceOp(r, ids[r.IntN(3)], 3)
			if r.IntN(20) == 0 {
				o = bent(r, o)
			}
			l = append(l, o)
		}
		lsn := p.LSN + r.Uint64N(40) - min(p.LSN, 10)
		got, e := op.Redo(p, lsn, l...)
		want, f := plainRedo(p, lsn, l...)
		if e != f || !samePage(got, want) {
			t.Fatalf("seed %d: Redo(%v, %d, %v): %v, %v, not %v, %v", seed, p, lsn, l, got, e, want, f)
		}
		switch {
		case e != api.OK:
			wrong++
		case samePage(got, p):
			none++
		default:
			some++
		}
	}
	if some < 2000 || none < 2000 || wrong < 2000 {
		t.Errorf("%d done, %d not, %d with an error", some, none, wrong)
	}
}

// P11.4: records by chance are done to pages; each page, read as any of its versions, is done again to the last one.
func TestVersions(t *testing.T) {
	many := 0
	for seed := range uint64(600) {
		r := rand.New(rand.NewPCG(seed, 114))
		type entry struct {
			lsn  uint64
			text string
		}
		var log []entry
		pages := map[uint32]api.Page{}
		versions := map[uint32][]api.Page{}
		for id := range uint32(4) {
			pages[id+1] = chancePage(r, id+1)
			versions[id+1] = []api.Page{pages[id+1]}
		}
		for lsn := uint64(1000); lsn < 1030; lsn++ {
			var l []api.Op
			for range 1 + r.IntN(4) {
				id := 1 + uint32(r.IntN(4))
				l = append(l, chanceOp(r, id, min(3, len(pages[id].Rows))))
			}
			next := map[uint32]api.Page{}
			for _, id := range op.Pages(l...) {
				q, e := op.Redo(pages[id], lsn, l...)
				if e == api.OK {
					next[id] = q
				}
			}
			// At once, or not at all.
			if len(next) < len(op.Pages(l...)) {
				continue
			}
			for id, p := range next {
				pages[id] = p
				versions[id] = append(versions[id], p)
			}
			s, e := op.Encode(l...)
			if e != api.OK {
				t.Fatalf("seed %d: Encode(%v): %v", seed, l, e)
			}
			log = append(log, entry{lsn, s})
		}
		many += len(log)
		for id, old := range versions {
			for i, p := range old {
				for _, x := range log {
					l, e := op.Decode(x.text)
					if e != api.OK {
						t.Fatalf("seed %d: Decode(%q): %v", seed, x.text, e)
					}
					if p, e = op.Redo(p, x.lsn, l...); e != api.OK {
						t.Fatalf("seed %d: version %d of page %d, at %d: %v", seed, i, id, x.lsn, e)
					}
				}
				if !samePage(p, pages[id]) {
					t.Fatalf("seed %d: from version %d on page %d becomes %v, not %v", seed, i, id, p, pages[id])
				}
			}
		}
	}
	if many < 3000 {
		t.Errorf("%d records alone", many)
	}
}
