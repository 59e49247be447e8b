package utf_test

import (
	"bytes"
	"slices"
	"testing"
	"unicode/utf8"

	"spoor/api"
	"spoor/utf"
)

var bad = got(0xFFFD, 1)

func got(r rune, n int) api.Got {
	return api.Got{R: r, N: n}
}

// ranged is what Go makes of a string.
func ranged(b []byte) []api.Got {
	var l []api.Got
	for len(b) > 0 {
		r, n := utf8.DecodeRune(b)
		l = append(l, api.Got{R: r, N: n})
		b = b[n:]
	}
	return l
}

// edges are the bytes at which something changes.
var edges = []byte{0x00, 0x61, 0x7F, 0x80, 0x8F, 0x90, 0x9F, 0xA0, 0xBF, 0xC0, 0xC1, 0xC2, 0xDF, 0xE0, 0xE1, 0xEC, 0xED, 0xEE, 0xEF, 0xF0, 0xF1, 0xF3, 0xF4, 0xF5, 0xF7, 0xF8, 0xFF}

// each calls f with all strings of at most n bytes of l.
func each(l []byte, n int, f func(b []byte)) {
	var add func(b []byte)
	add = func(b []byte) {
		f(b)
		if len(b) < n {
			for _, c := range l {
				add(append(slices.Clip(b), c))
			}
		}
	}
	add(nil)
}

func TestAllExamples(t *testing.T) {
	for _, c := range []struct {
		b string
		l []api.Got
	}{
		{"", nil},
		{"a\xC3\xA9\xFF\xE2\x82", []api.Got{got('a', 1), got('é', 2), bad, bad, bad}},
		{"\xE2\x82\xAC", []api.Got{got('€', 3)}},
		{"\xF0\x9F\x98\x80", []api.Got{got(0x1F600, 4)}},
		{"\xEF\xBF\xBD", []api.Got{got(0xFFFD, 3)}},
		{"\xED\xA0\x80", []api.Got{bad, bad, bad}},
		{"\xF4\x90\x80\x80", []api.Got{bad, bad, bad, bad}},
		{"\xC0\x80", []api.Got{bad, bad}},
		{"\xE0\x9F\xBF", []api.Got{bad, bad, bad}},
		{"\xF0\x8F\xBF\xBF", []api.Got{bad, bad, bad, bad}},
		{"\xF4\x8F\xBF\xBF", []api.Got{got(0x10FFFF, 4)}},
		{"\xED\x9F\xBF\xEE\x80\x80", []api.Got{got(0xD7FF, 3), got(0xE000, 3)}},
	} {
		if l := utf.All([]byte(c.b)); !slices.Equal(l, c.l) {
			t.Errorf("All(%x) = %v", c.b, l)
		}
	}
}

func TestAllIsHowGoRanges(t *testing.T) {
	each(edges, 4, func(b []byte) {
		if got := utf.All(b); !slices.Equal(got, ranged(b)) {
			t.Errorf("All(%x) = %v", b, got)
		}
	})
	for r := rune(0); r <= 0x10FFFF; r++ {
		if r == 0xD800 {
			r = 0xE000
		}
		b := utf8.AppendRune(nil, r)
		if got := utf.All(b); len(got) != 1 || got[0] != (api.Got{R: r, N: len(b)}) {
			t.Fatalf("All(%x) = %v", b, got)
		}
	}
}

// begun tells from Go's own decoder whether b is a nonempty proper prefix of a rune.
func begun(b []byte) bool {
	return len(b) > 0 && !utf8.FullRune(b)
}

func TestOf(t *testing.T) {
	each(edges, 4, func(b []byte) {
		d, e := utf.Of(b)
		if begun(b) || len(b) == 0 {
			if e != api.OK || d == nil || !bytes.Equal(d.Held(), b) {
				t.Errorf("Of(%x): %d", b, e)
			}
		} else if e != api.ErrForm || d != nil {
			t.Errorf("Of(%x): %d", b, e)
		}
	})
	for _, s := range []string{"\xE2\x61", "\xED\xA0", "a", "\xC3\xA9", "\xE2\x82\xAC", "\xC3\xA9\xC3", "\xFF", "\x80"} {
		if d, e := utf.Of([]byte(s)); d != nil || e != api.ErrForm {
			t.Errorf("Of(%x): %d", s, e)
		}
	}
	for _, s := range []string{"", "\xC2", "\xE2", "\xE2\x82", "\xF4\x8F", "\xF0\x90\x80"} {
		if d, e := utf.Of([]byte(s)); d == nil || e != api.OK {
			t.Errorf("Of(%x): %d", s, e)
		}
	}
}

func TestByteExamples(t *testing.T) {
	d := utf.New()
	if l := d.Byte(0xE2); len(l) != 0 {
		t.Error(l)
	}
	if l := d.Byte(0x82); len(l) != 0 || string(d.Held()) != "\xE2\x82" {
		t.Error(l)
	}
	if l := d.Byte(0xAC); !slices.Equal(l, []api.Got{got('€', 3)}) || len(d.Held()) != 0 {
		t.Error(l)
	}
	d.Byte(0xE2)
	if l := d.Byte('a'); !slices.Equal(l, []api.Got{bad, got('a', 1)}) || len(d.Held()) != 0 {
		t.Error(l)
	}
	d.Byte(0xF0)
	d.Byte(0x90)
	d.Byte(0x80)
	if l := d.Byte(0xC3); !slices.Equal(l, []api.Got{bad, bad, bad}) || string(d.Held()) != "\xC3" {
		t.Error(l, d.Held())
	}
}

func TestEnd(t *testing.T) {
	d, _ := utf.Of([]byte("\xF0\x90\x80"))
	if l := d.End(); !slices.Equal(l, []api.Got{bad, bad, bad}) || len(d.Held()) != 0 {
		t.Error(l)
	}
	if l := d.End(); len(l) != 0 {
		t.Error(l)
	}
	if l := d.Byte('x'); !slices.Equal(l, []api.Got{got('x', 1)}) {
		t.Error(l)
	}
	if l := utf.New().End(); len(l) != 0 {
		t.Error(l)
	}
}

// TestByteByByte: what the bytes give one at a time, with any of them held in between by another decoder, is All of them.
func TestByteByByte(t *testing.T) {
	each(edges, 4, func(b []byte) {
		d := utf.New()
		var l []api.Got
		used := 0
		for i, c := range b {
			again, e := utf.Of(d.Held())
			if e != api.OK {
				t.Fatalf("%x: Of(%x): %d", b, d.Held(), e)
			}
			got := d.Byte(c)
			if !slices.Equal(again.Byte(c), got) || !bytes.Equal(again.Held(), d.Held()) {
				t.Fatalf("%x: another decoder goes on differently at %d", b, i)
			}
			l = append(l, got...)
			for _, g := range got {
				used += g.N
			}
			if h := d.Held(); len(h) > 3 || !bytes.Equal(h, b[used:i+1]) || len(h) > 0 && !begun(h) {
				t.Fatalf("%x: held %x after %d bytes", b, h, i+1)
			}
		}
		if l = append(l, d.End()...); !slices.Equal(l, ranged(b)) {
			t.Errorf("%x: %v", b, l)
		}
	})
}

func TestMemory(t *testing.T) {
	b := append(make([]byte, 0, 8), 0xE2)
	d, _ := utf.Of(b)
	d.Byte(0x82)
	if b[:8][1] != 0 {
		t.Error("the room behind the argument was written")
	}
	b[0] = 'x'
	h := d.Held()
	for i := range h[:cap(h)] {
		h[:cap(h)][i] = 'y'
	}
	if l := d.Byte(0xAC); !slices.Equal(l, []api.Got{got('€', 3)}) {
		t.Error("the decoder shares memory", l)
	}
}
