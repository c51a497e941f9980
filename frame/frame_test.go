package frame_test

import (
	"math"
	"slices"
	"strings"
	"testing"
	"unsafe"

	"pentimento/api"
	"pentimento/frame"
)

// text is n bytes, none of which is 0.
func text(n int) string { return strings.Repeat("t", n) }

// row is the frames of the texts, one behind the other.
func row(lsn uint64, texts ...string) string {
	s := ""
	for _, x := range texts {
		s += plainFrame(lsn+uint64(len(s)), x)
	}
	return s
}

// lsns are some that may be.
func lsns() []uint64 {
	return []uint64{1, 2, 110, 255, 256, 1<<16 + 1, 1 << 32, 0x0102030405060708, 1 << 62, 1 << 63, math.MaxUint64 - 1, math.MaxUint64}
}

// refused fails, unless Decode answers that error, and nothing beside it.
func refused(t *testing.T, what, s string, lsn uint64, want api.Errno) {
	t.Helper()
	if x, used, e := frame.Decode(s, lsn); x != "" || used != 0 || e != want {
		t.Errorf("%s: Decode(%q, %d): %q, %d, %v, not %v", what, s, lsn, x, used, e, want)
	}
}

// scanned fails, unless Scan answers that.
func scanned(t *testing.T, what, s string, lsn uint64, texts []string, used int, e api.Errno) {
	t.Helper()
	l, n, f := frame.Scan(s, lsn)
	if !slices.Equal(l, texts) || n != used || f != e {
		t.Errorf("%s: Scan(%q, %d): %q, %d, %v, not %q, %d, %v", what, s, lsn, l, n, f, texts, used, e)
	}
}

// P10.1: how many bytes a frame has.
func TestSize(t *testing.T) {
	for _, c := range []struct{ n, size int }{
		{17, 31},
		{1, 15},
		{2, 16},
		{255, 269},
		{256, 270},
		{4095, 4109},
		{4096, 4110},
		{4097, 0},
		{4110, 0},
		{0, 0},
		{-1, 0},
		{-13, 0},
		{-14, 0},
		{-4096, 0},
		{1 << 16, 0},
		{1<<16 + 1, 0},
		{1<<32 + 1, 0},
		{math.MaxInt, 0},
		{math.MaxInt - 14, 0},
		{math.MinInt, 0},
		{math.MinInt + 1, 0},
	} {
		if size := frame.Size(c.n); size != c.size {
			t.Errorf("Size(%d): %d, not %d", c.n, size, c.size)
		}
	}
}

// P10.1, P10.2: frames whose bytes are written out.
func TestBytes(t *testing.T) {
	for _, c := range []struct {
		lsn     uint64
		text, s string
	}{
		{110, "abc", "\x00\x03\x00\x00\x00\x00\x00\x00\x00\x6e\x81\x7f\x64\xf7abc"},
		{127, "de", "\x00\x02\x00\x00\x00\x00\x00\x00\x00\x7f\x61\xb3\x6c\x80de"},
		{1, "\x00", "\x00\x01\x00\x00\x00\x00\x00\x00\x00\x01\x2a\x55\x25\x72\x00"},
		{math.MaxUint64, "\xff\xff\xff", "\x00\x03\xff\xff\xff\xff\xff\xff\xff\xff\x5b\x59\xbd\x61\xff\xff\xff"},
		{0x0102030405060708, strings.Repeat("x", 258), "\x01\x02\x01\x02\x03\x04\x05\x06\x07\x08\x82\x3b\x7d\xdb" + strings.Repeat("x", 258)},
	} {
		if s, e := frame.Encode(c.lsn, c.text); s != c.s || e != api.OK {
			t.Errorf("Encode(%d, %q): %q, %v, not %q", c.lsn, c.text, s, e, c.s)
		}
		if x, used, e := frame.Decode(c.s, c.lsn); x != c.text || used != len(c.s) || e != api.OK {
			t.Errorf("Decode(%q, %d): %q, %d, %v, not %q", c.s, c.lsn, x, used, e, c.text)
		}
		scanned(t, "one alone", c.s, c.lsn, []string{c.text}, len(c.s), api.OK)
	}
}

// P10.1: a text of 1 to 4096 bytes at an LSN above 0 has a frame.
func TestLimits(t *testing.T) {
	for _, lsn := range append(lsns(), 0) {
		for _, n := range []int{0, 1, 2, 13, 14, 255, 256, 4095, 4096, 4097, 4098, 1 << 16, 1<<16 + 1, 1 << 20} {
			s, e := frame.Encode(lsn, text(n))
			if may := lsn > 0 && n >= 1 && n <= 4096; !may {
				if s != "" || e != api.ErrArg {
					t.Errorf("Encode of %d bytes at %d: %d bytes, %v", n, lsn, len(s), e)
				}
				continue
			}
			if s != plainFrame(lsn, text(n)) || e != api.OK || len(s) != frame.Size(n) {
				t.Errorf("Encode of %d bytes at %d: %d bytes, %v", n, lsn, len(s), e)
			}
			if e := decodes(t, s, lsn); e != api.OK {
				t.Errorf("%d bytes at %d are not read: %v", n, lsn, e)
			}
		}
	}
}

// P10.2: fewer bytes than there are ahead of a record are ErrEnd, whatever they are, and at whatever LSN.
func TestTooFew(t *testing.T) {
	for n := range 14 {
		for _, lsn := range append(lsns(), 0) {
			refused(t, "the head cut", plainFrame(lsn, "abc")[:n], lsn, api.ErrEnd)
			refused(t, "bytes 0", strings.Repeat("\x00", n), lsn, api.ErrEnd)
			refused(t, "bytes 255", strings.Repeat("\xff", n), lsn, api.ErrEnd)
		}
	}
}

// P10.2: a frame that is cut is ErrEnd, wherever.
func TestCut(t *testing.T) {
	for _, n := range []int{1, 2, 3, 300, 4096} {
		s := plainFrame(110, text(n))
		for i := range s {
			refused(t, "a frame cut", s[:i], 110, api.ErrEnd)
		}
	}
}

// P10.2: a length, or an LSN, that may not be is ErrForm.
func TestForm(t *testing.T) {
	head := func(n int, lsn uint64) string { return bytesOf(uint64(n), 2) + bytesOf(lsn, 8) }
	refused(t, "no bytes", plainFrame(110, ""), 110, api.ErrForm)
	refused(t, "a byte too many", plainFrame(110, text(4097)), 110, api.ErrForm)
	refused(t, "as many as two bytes tell", plainFrame(110, text(65535)), 110, api.ErrForm)
	refused(t, "LSN 0", plainFrame(0, "abc"), 0, api.ErrForm)
	refused(t, "bytes 0 at LSN 0", strings.Repeat("\x00", 40), 0, api.ErrForm)
	refused(t, "bytes 0", strings.Repeat("\x00", 40), 110, api.ErrForm)
	refused(t, "LSN 0 of a frame", plainFrame(110, "abc"), 0, api.ErrForm)
	refused(t, "a frame of LSN 0", plainFrame(0, "abc"), 110, api.ErrForm)
	for _, a := range lsns() {
		for _, b := range lsns() {
			if a != b {
				refused(t, "another LSN", plainFrame(a, "abc"), b, api.ErrForm)
			}
		}
		for bit := range 64 {
			if b := a ^ 1<<bit; b != 0 {
				refused(t, "an LSN with a bit turned", plainFrame(b, "abc"), a, api.ErrForm)
			}
		}
	}
	// What is told first: the form ahead of bytes that are wanting, and both ahead of the sum.
	refused(t, "no bytes, and nothing else is wrong but the sum", head(0, 110)+"none", 110, api.ErrForm)
	refused(t, "a byte too many, cut", head(4097, 110)+"none", 110, api.ErrForm)
	refused(t, "another LSN, cut", head(3, 111)+"none", 110, api.ErrForm)
	refused(t, "another LSN and another sum", head(3, 111)+"noneabc", 110, api.ErrForm)
	refused(t, "LSN 0, cut", head(3, 0)+"none", 0, api.ErrForm)
	refused(t, "cut, and another sum", head(3, 110)+"noneab", 110, api.ErrEnd)
	refused(t, "cut, and as long as may be", head(4096, 110)+"none"+text(4095), 110, api.ErrEnd)
	refused(t, "another sum", head(3, 110)+"noneabc", 110, api.ErrSum)
	refused(t, "another sum, as long as may be", head(4096, 110)+"none"+text(4096), 110, api.ErrSum)
}

// P10.2: other sums, some nearly the one that is asked for.
func TestSum(t *testing.T) {
	const body = "123456789"
	head := bytesOf(9, 2) + bytesOf(110, 8)
	right := sealOf(head + body)
	for what, seal := range map[string]string{
		"the highest byte first":   string([]byte{right[3], right[2], right[1], right[0]}),
		"that of the text alone":   sealOf(body),
		"that of the head alone":   sealOf(head),
		"that of the LSN and text": sealOf(head[2:] + body),
		"that of text and head":    sealOf(body + head),
		"all bits turned":          string([]byte{^right[0], ^right[1], ^right[2], ^right[3]}),
		"nothing":                  "\x00\x00\x00\x00",
	} {
		refused(t, what, head+seal+body, 110, api.ErrSum)
		refused(t, what, head+seal+body+"more", 110, api.ErrSum)
	}
	if e := decodes(t, head+right+body, 110); e != api.OK {
		t.Errorf("the right sum: %v", e)
	}
}

// P10.2: each byte of a frame, changed to each other one, is told, by whichever error the chapter has for it.
func TestEachByte(t *testing.T) {
	for _, c := range []struct {
		text, behind string
	}{{"abc", ""}, {"a", "behind"}, {text(300), text(5000)}} {
		s := plainFrame(0x0102030405060708, c.text)
		for i := range s {
			for v := range 256 {
				if byte(v) == s[i] || i >= 40 && v%16 != 0 {
					continue
				}
				b := []byte(s + c.behind)
				b[i] = byte(v)
				if e := decodes(t, string(b), 0x0102030405060708); e == api.OK {
					t.Errorf("byte %d of %q is %d: it is read", i, s, v)
				}
			}
		}
	}
}

// P10.2: what stands behind a frame doesn't count.
func TestBehind(t *testing.T) {
	s := plainFrame(110, "abc")
	for _, more := range []string{"", "\x00", "x", s, plainFrame(127, "de"), strings.Repeat("\xff", 5000)} {
		if x, used, e := frame.Decode(s+more, 110); x != "abc" || used != 17 || e != api.OK {
			t.Errorf("%q behind: %q, %d, %v", more, x, used, e)
		}
	}
}

// P10.2: rows of frames, and what ends them.
func TestScan(t *testing.T) {
	two := []string{"abc", "de"}
	s := row(110, two...)
	for _, c := range []struct {
		what, more string
		e          api.Errno
	}{
		{"nothing behind", "", api.OK},
		{"a byte", "\x00", api.ErrEnd},
		{"13 bytes", text(13), api.ErrEnd},
		{"14 bytes", text(14), api.ErrForm},
		{"bytes 0", strings.Repeat("\x00", 200), api.ErrForm},
		{"a frame cut", plainFrame(143, "fgh")[:16], api.ErrEnd},
		{"a frame of another sum", plainFrame(143, "fgh")[:16] + "i", api.ErrSum},
		{"the same frame again", plainFrame(127, "de"), api.ErrForm},
		{"a frame of the LSN ahead", plainFrame(142, "fgh"), api.ErrForm},
		{"a frame of the LSN behind", plainFrame(144, "fgh"), api.ErrForm},
		{"a frame at how many bytes there are", plainFrame(33, "fgh"), api.ErrForm},
		{"a frame of LSN 0", plainFrame(0, "fgh"), api.ErrForm},
		{"a frame of no bytes", plainFrame(143, ""), api.ErrForm},
		{"a frame of no bytes, and one that is one", plainFrame(143, "") + plainFrame(157, "a"), api.ErrForm},
		{"a frame that is too long", plainFrame(143, text(4097)), api.ErrForm},
		{"another sum, and a frame that is one", plainFrame(143, "fgh")[:16] + "i" + plainFrame(160, "a"), api.ErrSum},
	} {
		scanned(t, c.what, s+c.more, 110, two, 33, c.e)
		if e := scans(t, c.more, 143); e != c.e {
			t.Errorf("%s, alone: %v, not %v", c.what, e, c.e)
		}
	}
	scanned(t, "another LSN", s, 111, nil, 0, api.ErrForm)
	scanned(t, "LSN 0", s, 0, nil, 0, api.ErrForm)
	scanned(t, "LSN 0, and a frame of it", plainFrame(0, "abc"), 0, nil, 0, api.ErrForm)
	scanned(t, "from the second one on", s[17:], 127, two[1:], 16, api.OK)
	scanned(t, "a third one", s+plainFrame(143, "f"), 110, []string{"abc", "de", "f"}, 48, api.OK)
}

// P10.2: of nothing, nothing is left, at whatever LSN.
func TestScanNothing(t *testing.T) {
	for _, lsn := range append(lsns(), 0) {
		scanned(t, "nothing", "", lsn, nil, 0, api.OK)
	}
}

// P10.2: behind the last LSN that eight bytes have room for there is none.
func TestScanLastLSN(t *testing.T) {
	const last = math.MaxUint64
	for _, c := range []struct {
		what  string
		lsn   uint64
		texts []string
		want  int
	}{
		{"the last LSN", last, []string{"a"}, 1},
		{"from the last LSN to one of the first ones", last, []string{"a", "b", "c"}, 1},
		{"up to the last LSN", last - 14, []string{"a"}, 1},
		{"up to the last LSN, and behind it", last - 14, []string{"a", "b"}, 1},
		{"one at the last LSN", last - 15, []string{"a", "b"}, 2},
		{"one at the last LSN, and behind it", last - 15, []string{"a", "b", "c"}, 2},
		{"over the last LSN", last - 20, []string{"a", text(4096), "c"}, 2},
	} {
		s := row(c.lsn, c.texts...)
		all := len(row(c.lsn, c.texts[:c.want]...))
		e := api.OK
		if c.want < len(c.texts) {
			e = api.ErrForm
		}
		scanned(t, c.what, s, c.lsn, c.texts[:c.want], all, e)
		scanned(t, c.what+", and a byte", s[:all]+"x", c.lsn, c.texts[:c.want], all, api.ErrEnd)
	}
}

// P10.3: of a row that is cut anywhere just the whole ones are told.
func TestScanCut(t *testing.T) {
	texts := []string{"a", "bcd", text(300), "\x00", strings.Repeat("\x00", 20), plainFrame(9, "in a frame"), "z"}
	for _, lsn := range []uint64{1, 110, 1 << 62, math.MaxUint64 - 1000} {
		s := row(lsn, texts...)
		for cut := range len(s) + 1 {
			whole, used := 0, 0
			for whole < len(texts) && used+14+len(texts[whole]) <= cut {
				used += 14 + len(texts[whole])
				whole++
			}
			e := api.OK
			if used < cut {
				e = api.ErrEnd
			}
			scanned(t, "cut", s[:cut], lsn, texts[:whole], used, e)
		}
	}
}

// P10.3: a row of frames of each length there is, written by Encode, is scanned.
func TestScanWritten(t *testing.T) {
	var b strings.Builder
	var texts []string
	for n := 1; n <= 4096; n++ {
		x := text(n)
		s, e := frame.Encode(110+uint64(b.Len()), x)
		if e != api.OK {
			t.Fatal(n, e)
		}
		b.WriteString(s)
		texts = append(texts, x)
	}
	l, used, e := frame.Scan(b.String(), 110)
	if !slices.Equal(l, texts) || used != b.Len() || e != api.OK {
		t.Errorf("%d frames of %d bytes, %v", len(l), used, e)
	}
}

// P10.3: of frames one is read alone just as in its row, and no frame begins elsewhere.
func TestEachLSN(t *testing.T) {
	texts := []string{"abc", "\x00", text(30), strings.Repeat("\x00\x01", 20)}
	s := row(110, texts...)
	found := []string{}
	for i := range s {
		if x, _, e := frame.Decode(s[i:], 110+uint64(i)); e == api.OK {
			found = append(found, x)
		}
	}
	if !slices.Equal(found, texts) {
		t.Errorf("%q, not %q", found, texts)
	}
}

// R5: answers share no memory with arguments, nor with each other.
func TestNewMemory(t *testing.T) {
	inside := func(part, s string) bool {
		at, from := uintptr(unsafe.Pointer(unsafe.StringData(part))), uintptr(unsafe.Pointer(unsafe.StringData(s)))
		return at >= from && at < from+uintptr(len(s))
	}
	for _, n := range []int{1, 2, 100, 4096} {
		x := text(n)
		s, _ := frame.Encode(110, x)
		if inside(x, s) || inside(s, x) {
			t.Errorf("the frame of %d bytes has the argument", n)
		}
		if out, _, _ := frame.Decode(s, 110); len(out) != n || inside(out, s) {
			t.Errorf("what is read of %d bytes is a piece of the frame", n)
		}
		twice := row(110, x, x)
		l, _, _ := frame.Scan(twice, 110)
		if len(l) != 2 || inside(l[0], twice) || inside(l[1], twice) {
			t.Fatalf("what is scanned of %d bytes is a piece of the row", n)
		}
		m, _, _ := frame.Scan(twice, 110)
		m[0] = "other"
		if l[0] != x {
			t.Errorf("two lists of %d bytes share memory", n)
		}
	}
}

// R6: an answer doesn't hang on what was asked before.
func TestSameAgain(t *testing.T) {
	s := row(110, "abc", "de") + "x"
	for range 3 {
		scanned(t, "again", s, 110, []string{"abc", "de"}, 33, api.ErrEnd)
		refused(t, "again", s, 111, api.ErrForm)
		refused(t, "again", s[:16], 110, api.ErrEnd)
	}
}
