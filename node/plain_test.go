package node_test

import (
	"math/rand/v2"
	"slices"
	"strings"
	"testing"

	"pentimento/api"
	"pentimento/node"
)

// plainRow is the key of a row's bytes, as chapter 7 tells them; false, if they are none.
func plainRow(s string) (string, bool) {
	if len(s) < 17 {
		return "", false
	}
	size := int(s[15])
	if s[0] > 1 || size < 1 || size > 48 || len(s) < 17+size {
		return "", false
	}
	roll := int(s[9])<<24 | int(s[10])<<16 | int(s[11])<<8 | int(s[12])
	if roll > 1024 || roll == 0 && s[13:15] != "\x00\x00" {
		return "", false
	}
	value, rest := int(s[16+size]), s[17+size:]
	if value > len(rest) || len(rest) > 96 {
		return "", false
	}
	for _, c := range []byte(rest[value:]) {
		if c != 0 {
			return "", false
		}
	}
	return s[16 : 16+size], true
}

// plainEntry is the key and the child of an entry's bytes.
func plainEntry(s string) (string, int, bool) {
	if len(s) < 4 || len(s) > 52 {
		return "", 0, false
	}
	child := int(s[0])<<24 | int(s[1])<<16 | int(s[2])<<8 | int(s[3])
	return s[4:], child, child >= 1 && child <= 1024
}

// plainKeys is the keys of a node, but for its room.
func plainKeys(p api.Page) ([]string, bool) {
	leaf := p.Kind == 1 && p.Level == 0
	inner := p.Kind == 2 && p.Level >= 1 && len(p.Rows) >= 1
	if !leaf && !inner || p.Id < 1 || p.Id > 1024 || p.Next > 1024 {
		return nil, false
	}
	var keys []string
	for i, r := range p.Rows {
		k, is := plainRow(r)
		if inner {
			k, _, is = plainEntry(r)
		}
		if !is || i > 0 && keys[i-1] >= k {
			return nil, false
		}
		keys = append(keys, k)
	}
	return keys, true
}

// plainWeight is four bytes and its own ones for each row.
func plainWeight(rows []string) int { return 4*len(rows) + len(strings.Join(rows, "")) }

// plainRoom: whether rows have room: 488 bytes less 4 ahead.
func plainRoom(rows []string) bool { return plainWeight(rows) <= 484 }

// plainNode is the keys of a node.
func plainNode(p api.Page) ([]string, bool) {
	keys, is := plainKeys(p)
	return keys, is && plainRoom(p.Rows)
}

// plainPut is With, but for room.
func plainPut(p api.Page, at int, text string, is bool) (api.Page, api.Errno) {
	if _, node := plainNode(p); !node {
		return api.Page{}, api.ErrForm
	}
	if at < 0 || at > len(p.Rows) || is && at == len(p.Rows) {
		return api.Page{}, api.ErrArg
	}
	var rows []string
	for i, r := range append(slices.Clone(p.Rows), "") {
		if i == at {
			rows = append(rows, text)
		}
		if i < len(p.Rows) && (i != at || !is) {
			rows = append(rows, r)
		}
	}
	p.Rows = rows
	if _, node := plainKeys(p); !node {
		return api.Page{}, api.ErrForm
	}
	return p, api.OK
}

// plainSplit is Split: of all cuts the best one.
func plainSplit(p api.Page, at int, text string, is bool) (left, right []string, sep string, e api.Errno) {
	q, e := plainPut(p, at, text, is)
	if e != api.OK {
		return nil, nil, "", e
	}
	type way struct{ apart, n int }
	var ways []way
	for n := 1; n < len(q.Rows); n++ {
		if plainRoom(q.Rows[:n]) && plainRoom(q.Rows[n:]) {
			d := plainWeight(q.Rows[:n]) - plainWeight(q.Rows[n:])
			ways = append(ways, way{max(d, -d), n})
		}
	}
	if len(ways) == 0 {
		return nil, nil, "", api.ErrArg
	}
	best := slices.MinFunc(ways, func(a, b way) int {
		if a.apart != b.apart {
			return a.apart - b.apart
		}
		return a.n - b.n
	}).n
	keys, _ := plainKeys(q)
	sep = keys[best]
	if p.Kind == 1 {
		for n := range sep {
			if sep[:n+1] > keys[best-1] {
				sep = sep[:n+1]
				break
			}
		}
	}
	return q.Rows[:best], q.Rows[best:], sep, api.OK
}

// plainMerge is Merge.
func plainMerge(left, right api.Page) (api.Page, api.Errno) {
	a, isLeft := plainNode(left)
	b, isRight := plainNode(right)
	if !isLeft || !isRight {
		return api.Page{}, api.ErrForm
	}
	if left.Kind != right.Kind || left.Level != right.Level {
		return api.Page{}, api.ErrArg
	}
	for _, x := range a {
		for _, y := range b {
			if x >= y {
				return api.Page{}, api.ErrForm
			}
		}
	}
	left.Rows = append(slices.Clone(left.Rows), right.Rows...)
	if !plainRoom(left.Rows) {
		return api.Page{}, api.ErrFull
	}
	left.Next = right.Next
	return left, api.OK
}

// chance is where texts by chance come from.
type chance struct{ *rand.Rand }

// text is so many bytes, most of them of few.
func (c chance) text(size int) string {
	var b []byte
	for range size {
		if c.IntN(6) == 0 {
			b = append(b, byte(c.IntN(256)))
			continue
		}
		b = append(b, "\x00ab\xff"[c.IntN(4)])
	}
	return string(b)
}

// key is a key, mostly a short one.
func (c chance) key() string {
	if c.IntN(8) == 0 {
		return c.text(48 - c.IntN(3))
	}
	return c.text(1 + c.IntN(4))
}

// row is the bytes of a row of that kind of page, of that key.
func (c chance) row(kind uint8, k string) string {
	if kind != 1 {
		return entry(k, 1+c.IntN(1024))
	}
	b := []byte(leafRow(k, c.IntN(1+c.IntN(97))))
	b[0] = byte(c.IntN(2))
	for i := 1; i < 9; i++ {
		b[i] = byte(c.IntN(256))
	}
	b[11], b[14] = byte(1+c.IntN(3)), byte(c.IntN(256))
	return string(b)
}

// page is a node by chance, of keys between two others.
func (c chance) page(kind uint8, from, to string) api.Page {
	p := api.Page{Kind: kind, Level: 0, Id: uint32(1 + c.IntN(1024)), LSN: c.Uint64(), Next: uint32(c.IntN(1025))}
	if kind == 2 {
		p.Level = uint8(1 + c.IntN(3))
	}
	var keys []string
	for range c.IntN(1 + c.IntN(60)) {
		if k := c.key(); k >= from && (to == "" || k < to) {
			keys = append(keys, k)
		}
	}
	if kind == 2 && (len(keys) == 0 || c.IntN(2) == 0) {
		keys = append(keys, from)
	}
	slices.Sort(keys)
	for _, k := range slices.Compact(keys) {
		if r := c.row(kind, k); plainRoom(append(p.Rows, r)) {
			p.Rows = append(p.Rows, r)
		}
	}
	return p
}

// spoilt is the page with a change by which it may be no node.
func (c chance) spoilt(p api.Page) api.Page {
	p.Rows = slices.Clone(p.Rows)
	some := 0
	if len(p.Rows) > 0 {
		some = c.IntN(len(p.Rows))
	}
	switch n := c.IntN(10); {
	case n == 0:
		p.Kind = uint8(c.IntN(7))
	case n == 1:
		p.Level = uint8(c.IntN(3))
	case n == 2:
		p.Id = uint32(c.IntN(2) * 1025)
	case n == 3:
		p.Next = uint32(1023 + c.IntN(3))
	case n == 4:
		p.Rows = nil
	case n == 5:
		p.Rows = slices.Insert(p.Rows, some, c.row(p.Kind, c.key()))
	case n == 6 && len(p.Rows) > 1:
		k := c.IntN(len(p.Rows))
		p.Rows[some], p.Rows[k] = p.Rows[k], p.Rows[some]
	case n == 7:
		p.Rows = append(p.Rows, c.row(p.Kind, strings.Repeat("\xff", 40+c.IntN(10))))
	case len(p.Rows) > 0 && len(p.Rows[some]) > 0:
		b := []byte(p.Rows[some])
		b[c.IntN(len(b))] = byte(c.IntN(256))
		p.Rows[some] = string(b[:len(b)-c.IntN(2)])
	}
	return p
}

// sameKeys fails, unless what is told of keys is as the chapter says.
func sameKeys(t *testing.T, c chance, p api.Page) {
	t.Helper()
	keys, is := plainNode(p)
	if (node.Check(p) == api.OK) != is {
		t.Fatalf("Check(%v): %v", p, node.Check(p))
	}
	if !is {
		keys = nil
	}
	at := c.IntN(len(p.Rows)+3) - 1
	k, e := node.Key(p, at)
	switch {
	case !is:
		if k != "" || e != api.ErrForm {
			t.Fatalf("Key(%v, %d): %q, %v", p, at, k, e)
		}
	case at < 0 || at >= len(keys):
		if k != "" || e != api.ErrNone {
			t.Fatalf("Key(%v, %d): %q, %v", p, at, k, e)
		}
	case k != keys[at] || e != api.OK:
		t.Fatalf("Key(%v, %d): %q, %v", p, at, k, e)
	}
	sought := c.key()
	if len(keys) > 0 && c.IntN(2) == 0 {
		sought = keys[c.IntN(len(keys))]
	}
	want, there := len(keys), false
	for i := len(keys) - 1; i >= 0 && keys[i] >= sought; i-- {
		want, there = i, keys[i] == sought
	}
	if at, is := node.Find(p, sought); at != want || is != there {
		t.Fatalf("Find(%v, %q): %d, %v", p, sought, at, is)
	}
	child, leads, no := 0, 0, api.ErrForm
	if is && p.Kind == 2 {
		for i, k := range keys {
			if k <= sought {
				leads = i
			}
		}
		_, child, _ = plainEntry(p.Rows[leads])
		no = api.OK
	}
	if n, at, e := node.Child(p, sought); int(n) != child || at != leads || e != no {
		t.Fatalf("Child(%v, %q): %d, %d, %v", p, sought, n, at, e)
	}
}

// samePut fails, unless what is answered with a text at a place is as the chapter says.
func samePut(t *testing.T, p api.Page, at int, text string, is bool) {
	t.Helper()
	want, e := plainPut(p, at, text, is)
	if e == api.OK && !plainRoom(want.Rows) {
		want, e = api.Page{}, api.ErrFull
	}
	q, no := node.With(p, at, text, is)
	if no != e || !alike(q, want) || node.Fits(p, at, text, is) != (e == api.OK) {
		t.Fatalf("With(%v, %d, %q, %v): %v, %v, not %v, %v", p, at, text, is, q, no, want, e)
	}
	l, r, sep, e := plainSplit(p, at, text, is)
	left, right, s, no := node.Split(p, at, text, is)
	if no != e || !slices.Equal(left, l) || !slices.Equal(right, r) || s != sep {
		t.Fatalf("Split(%v, %d, %q, %v): %q, %q, %q, %v, not %q, %q, %q, %v", p, at, text, is, left, right, s, no, l, r, sep, e)
	}
	if e != api.OK {
		return
	}
	// P8.4, of what was split.
	a, b := of(p, left...), of(p, right...)
	if node.Check(a) != api.OK || node.Check(b) != api.OK {
		t.Fatalf("a part of %v is no node", p)
	}
	if n, is := node.Find(a, s); n != len(left) || is {
		t.Fatalf("separator %q on the left of %q", s, left)
	}
	if n, _ := node.Find(b, s); n != 0 {
		t.Fatalf("separator %q on the right of %q", s, right)
	}
	whole, e := node.Merge(a, b)
	if !alike(whole, want) || (e == api.OK) != (want.Id != 0) {
		t.Fatalf("merged: %v, %v, not %v", whole, e, want)
	}
}

// P8.1 to P8.4: nodes by chance, and such that are none, against a plain writing by the chapter's words.
func TestPlain(t *testing.T) {
	c := chance{rand.New(rand.NewPCG(8, 1))}
	for range 12000 {
		kind := uint8(1 + c.IntN(2))
		p := c.page(kind, "", "")
		if c.IntN(3) == 0 {
			p = c.spoilt(p)
		}
		sameKeys(t, c, p)
		k := c.key()
		text, at := c.row(kind, k), c.IntN(len(p.Rows)+3)-1
		if keys, is := plainNode(p); is && c.IntN(4) > 0 {
			at, _ = slices.BinarySearch(keys, k)
		}
		if c.IntN(20) == 0 {
			text = c.text(c.IntN(60))
		}
		samePut(t, p, at, text, false)
		samePut(t, p, at, text, true)
		want, e := api.Page{}, api.ErrForm
		if _, is := plainNode(p); is && (at < 0 || at >= len(p.Rows)) {
			e = api.ErrNone
		} else if is && (p.Kind == 1 || len(p.Rows) > 1) {
			want, e = of(p, slices.Delete(slices.Clone(p.Rows), at, at+1)...), api.OK
		}
		if q, no := node.Without(p, at); no != e || !alike(q, want) {
			t.Fatalf("Without(%v, %d): %v, %v", p, at, q, no)
		}
		if node.Small(p) != (3*plainWeight(p.Rows) < 488) {
			t.Fatalf("Small(%v): %v", p, node.Small(p))
		}
	}
}

// P8.3: pages by chance are merged, or not, as the chapter says.
func TestPlainMerge(t *testing.T) {
	c := chance{rand.New(rand.NewPCG(8, 2))}
	count := map[api.Errno]int{}
	for range 12000 {
		kind := uint8(1 + c.IntN(2))
		middle := c.key()
		left, right := c.page(kind, "", middle), c.page(kind, middle, "")
		switch c.IntN(12) {
		case 0:
			left, right = right, left
		case 1:
			right = c.page(kind, "", "")
		case 2:
			right = c.page(3-kind, middle, "")
		case 3:
			left = c.spoilt(left)
		case 4:
			right = c.spoilt(right)
		default:
			right.Level = left.Level
		}
		want, e := plainMerge(left, right)
		q, no := node.Merge(left, right)
		if no != e || !alike(q, want) {
			t.Fatalf("Merge(%v, %v): %v, %v, not %v, %v", left, right, q, no, want, e)
		}
		count[e]++
	}
	for _, e := range []api.Errno{api.OK, api.ErrArg, api.ErrForm, api.ErrFull} {
		if count[e] < 300 {
			t.Errorf("error %d: but %d times", e, count[e])
		}
	}
}
