package wire_test

import (
	"bytes"
	"math"
	"slices"
	"strings"
	"testing"

	"spoor/api"
	"spoor/wire"
)

// numbers are ordinary ones and those at which the number of bytes changes.
func numbers() []int {
	l := []int{0, 1, 2, 7, 8, 9, 127, 128, 200, 1000, math.MaxInt - 1, math.MaxInt}
	for k := 8; k < 63; k += 8 {
		l = append(l, 1<<k-1, 1<<k, 1<<k+1)
	}
	return l
}

// spare returns s with room behind it, filled with 0xEE.
func spare(s string) []byte {
	b := append(make([]byte, 0, len(s)+40), s...)
	for i := len(s); i < cap(b); i++ {
		b[:cap(b)][i] = 0xEE
	}
	return b
}

func spareKept(b []byte) bool {
	for _, x := range b[len(b):cap(b)] {
		if x != 0xEE {
			return false
		}
	}
	return true
}

func TestNum(t *testing.T) {
	for _, c := range []struct {
		b    string
		n    int
		want string
	}{
		{"", 0, "\x00"},
		{"\x07", 255, "\x07\x01\xff"},
		{"", 256, "\x02\x01\x00"},
		{"", -5, "\x00"},
		{"", math.MinInt, "\x00"},
		{"ab", 1, "ab\x01\x01"},
		{"", 65535, "\x02\xff\xff"},
		{"", 65536, "\x03\x01\x00\x00"},
		{"", math.MaxInt, "\x08\x7f\xff\xff\xff\xff\xff\xff\xff"},
		{"", 1 << 56, "\x08\x01\x00\x00\x00\x00\x00\x00\x00"},
		{"", 1<<56 - 1, "\x07\xff\xff\xff\xff\xff\xff\xff"},
	} {
		if got := wire.Num([]byte(c.b), c.n); string(got) != c.want {
			t.Errorf("Num(%x, %d) = %x, not %x", c.b, c.n, got, c.want)
		}
	}
}

func TestTextAndFlag(t *testing.T) {
	if got := wire.Text(nil, "ab"); string(got) != "\x01\x02ab" {
		t.Errorf("%x", got)
	}
	if got := wire.Text([]byte("q"), ""); string(got) != "q\x00" {
		t.Errorf("%x", got)
	}
	long := strings.Repeat("\xff", 300)
	if got := wire.Text(nil, long); string(got) != "\x02\x01\x2c"+long {
		t.Errorf("%x", got)
	}
	if got := wire.Flag([]byte("q"), true); string(got) != "q\x01\x01" {
		t.Errorf("%x", got)
	}
	if got := wire.Flag(nil, false); string(got) != "\x00" {
		t.Errorf("%x", got)
	}
}

func TestList(t *testing.T) {
	if got := wire.List(nil, []int{1, 2}, wire.Num); string(got) != "\x01\x02\x01\x01\x01\x02" {
		t.Errorf("%x", got)
	}
	if got := wire.List([]byte("q"), []string{"", "xy"}, wire.Text); string(got) != "q\x01\x02\x00\x01\x02xy" {
		t.Errorf("%x", got)
	}
	if got := wire.List([]byte("q"), nil, wire.Num); string(got) != "q\x00" {
		t.Errorf("%x", got)
	}
	many := make([]int, 256)
	if got := wire.List(nil, many, wire.Num); len(got) != 3+256 || string(got[:3]) != "\x02\x01\x00" {
		t.Errorf("%x", got)
	}
}

func TestListGoesOnWithWhatOneReturns(t *testing.T) {
	var seen []string
	got := wire.List([]byte("q"), []int{5, 6, 7}, func(b []byte, x int) []byte {
		seen = append(seen, string(b))
		if x == 6 {
			return []byte("other")
		}
		return append(b, byte(x))
	})
	if string(got) != "other\x07" {
		t.Errorf("%q", got)
	}
	if !slices.Equal(seen, []string{"q\x01\x03", "q\x01\x03\x05", "other"}) {
		t.Errorf("%q", seen)
	}
}

func TestResultsAreNewMemory(t *testing.T) {
	b := spare("head")
	kept := spare("kept")
	results := [][]byte{
		wire.Num(b, 5), wire.Text(b, "x"), wire.Text(b, ""), wire.Flag(b, true),
		wire.List(b, []int{1}, wire.Num), wire.List(b, nil, wire.Num),
		wire.List(nil, []int{1}, func([]byte, int) []byte { return kept }),
	}
	if !spareKept(b) {
		t.Error("the room behind the argument was written")
	}
	for i, r := range results {
		for j := range r[:cap(r)] {
			r[:cap(r)][j] = 0x11
		}
		if string(b) != "head" || !spareKept(b) || string(kept) != "kept" || !spareKept(kept) {
			t.Fatalf("result %d shares memory", i)
		}
	}
}

func TestReaderNum(t *testing.T) {
	for _, c := range []struct {
		b  string
		n  int
		e  api.Errno
		at int
	}{
		{"\x00", 0, api.OK, 1},
		{"\x01\x01", 1, api.OK, 2},
		{"\x01\xff\x33", 255, api.OK, 2},
		{"\x08\x7f\xff\xff\xff\xff\xff\xff\xff", math.MaxInt, api.OK, 9},
		{"", 0, api.ErrShort, 0},
		{"\x09", 0, api.ErrForm, 0},
		{"\xff\x01", 0, api.ErrForm, 0},
		{"\x02\x01", 0, api.ErrShort, 0},
		{"\x02\x00", 0, api.ErrShort, 0},
		{"\x01", 0, api.ErrShort, 0},
		{"\x08\x80\x00\x00\x00\x00\x00\x00", 0, api.ErrShort, 0},
		{"\x01\x00", 0, api.ErrForm, 0},
		{"\x02\x00\x05", 0, api.ErrForm, 0},
		{"\x08\x80\x00\x00\x00\x00\x00\x00\x00", 0, api.ErrForm, 0},
		{"\x08\xff\xff\xff\xff\xff\xff\xff\xff", 0, api.ErrForm, 0},
		{"\x08\x00\xff\xff\xff\xff\xff\xff\xff", 0, api.ErrForm, 0},
	} {
		r := wire.Read([]byte(c.b))
		if n := r.Num(); n != c.n || r.Err() != c.e || r.At() != c.at {
			t.Errorf("Num of %x: %d, %d at %d", c.b, n, r.Err(), r.At())
		}
	}
}

func TestUpto(t *testing.T) {
	for _, c := range []struct {
		b    string
		most int
		n    int
		e    api.Errno
	}{
		{"\x01\x05", 4, 0, api.ErrLong},
		{"\x01\x05", 5, 5, api.OK},
		{"\x00", 0, 0, api.OK},
		{"\x00", -1, 0, api.ErrLong},
		{"\x00", math.MinInt, 0, api.ErrLong},
		{"\x01\x00", -1, 0, api.ErrForm},
		{"\x01", 0, 0, api.ErrShort},
		{"\x09", 0, 0, api.ErrForm},
		{"\x08\x7f\xff\xff\xff\xff\xff\xff\xff", math.MaxInt, math.MaxInt, api.OK},
		{"\x08\x7f\xff\xff\xff\xff\xff\xff\xff", math.MaxInt - 1, 0, api.ErrLong},
		{"\x08\x80\x00\x00\x00\x00\x00\x00\x00", 4, 0, api.ErrForm},
	} {
		r := wire.Read([]byte(c.b))
		if n := r.Upto(c.most); n != c.n || r.Err() != c.e || c.e != api.OK && r.At() != 0 {
			t.Errorf("Upto(%d) of %x: %d, %d at %d", c.most, c.b, n, r.Err(), r.At())
		}
	}
}

func TestReaderFlag(t *testing.T) {
	for _, c := range []struct {
		b  string
		f  bool
		e  api.Errno
		at int
	}{
		{"\x00", false, api.OK, 1},
		{"\x01\x01", true, api.OK, 2},
		{"\x01\x02", false, api.ErrForm, 0},
		{"\x02\x01\x00", false, api.ErrForm, 0},
		{"\x01\x00", false, api.ErrForm, 0},
		{"\x01", false, api.ErrShort, 0},
		{"", false, api.ErrShort, 0},
		{"\x09", false, api.ErrForm, 0},
	} {
		r := wire.Read([]byte(c.b))
		if f := r.Flag(); f != c.f || r.Err() != c.e || r.At() != c.at {
			t.Errorf("Flag of %x: %v, %d at %d", c.b, f, r.Err(), r.At())
		}
	}
}

func TestReaderText(t *testing.T) {
	for _, c := range []struct {
		b    string
		most int
		s    string
		e    api.Errno
		at   int
	}{
		{"\x01\x03abc", 3, "abc", api.OK, 5},
		{"\x01\x03abcd", 9, "abc", api.OK, 5},
		{"\x00", 0, "", api.OK, 1},
		{"\x00", -1, "", api.ErrLong, 0},
		{"\x01\x03a", 9, "", api.ErrShort, 0},
		{"\x01\x03ab", 3, "", api.ErrShort, 0},
		{"\x01\x03ab", 2, "", api.ErrLong, 0},
		{"\x01\x03abc", 2, "", api.ErrLong, 0},
		{"\x01", 2, "", api.ErrShort, 0},
		{"\x01\x00", 2, "", api.ErrForm, 0},
		{"\x08\x7f\xff\xff\xff\xff\xff\xff\xffab", math.MaxInt, "", api.ErrShort, 0},
	} {
		r := wire.Read([]byte(c.b))
		if s := r.Text(c.most); s != c.s || r.Err() != c.e || r.At() != c.at {
			t.Errorf("Text(%d) of %x: %q, %d at %d", c.most, c.b, s, r.Err(), r.At())
		}
	}
}

// zeros reads a value of each kind, and tells whether all of them are zero.
func zeros(r *wire.Reader) bool {
	called := false
	l := wire.Items(r, 100, func(r *wire.Reader) int { called = true; return 7 })
	return r.Num() == 0 && r.Upto(100) == 0 && r.Text(100) == "" && !r.Flag() && len(l) == 0 && !called
}

func TestErrorsStay(t *testing.T) {
	good := "\x01\x05\x01\x01z\x01\x01"
	for _, c := range []struct {
		bad string
		one func(r *wire.Reader)
		e   api.Errno
	}{
		{"\x09\x01\x01", func(r *wire.Reader) { r.Num() }, api.ErrForm},
		{"\x01\x05\x01\x01", func(r *wire.Reader) { r.Upto(4) }, api.ErrLong},
		{"\x01\x05\x01\x01", func(r *wire.Reader) { r.Flag() }, api.ErrForm},
		{"\x01\x05\x01\x01", func(r *wire.Reader) { r.Text(9) }, api.ErrShort},
		{"\x01\x05\x01\x01", func(r *wire.Reader) { wire.Items(r, 9, (*wire.Reader).Num) }, api.ErrShort},
		{"\x01\x01\x01\x01", func(r *wire.Reader) { r.End() }, api.ErrTail},
	} {
		r := wire.Read([]byte(good + c.bad))
		if r.Num() != 5 || r.Text(1) != "z" || !r.Flag() || r.At() != len(good) || r.Err() != api.OK {
			t.Fatal("the good values")
		}
		c.one(r)
		for range 3 {
			if r.Err() != c.e || r.At() != len(good) {
				t.Errorf("%x: %d at %d", c.bad, r.Err(), r.At())
			}
			if !zeros(r) {
				t.Errorf("%x: a reader with an error returns values", c.bad)
			}
			if r.End() != c.e {
				t.Errorf("%x: End %d", c.bad, r.End())
			}
		}
	}
}

func TestEnd(t *testing.T) {
	if e := wire.Read(nil).End(); e != api.OK {
		t.Error(e)
	}
	r := wire.Read([]byte{0})
	if e := r.End(); e != api.ErrTail || r.Err() != api.ErrTail || r.At() != 0 || r.Num() != 0 || r.At() != 0 {
		t.Error(e, r.Err(), r.At())
	}
	r = wire.Read([]byte{0})
	r.Num()
	if r.End() != api.OK || r.End() != api.OK || r.Err() != api.OK || r.At() != 1 {
		t.Error(r.Err(), r.At())
	}
	if r.Num(); r.End() != api.ErrShort || r.At() != 1 {
		t.Error("a value behind the end")
	}
}

func TestItems(t *testing.T) {
	r := wire.Read([]byte("\x01\x03\x01\x07\x00\x01\x09rest"))
	if l := wire.Items(r, 3, (*wire.Reader).Num); !slices.Equal(l, []int{7, 0, 9}) || r.At() != 7 || r.Err() != api.OK {
		t.Error(l, r.At(), r.Err())
	}
	r = wire.Read([]byte("\x00q"))
	if l := wire.Items(r, 0, (*wire.Reader).Num); len(l) != 0 || r.At() != 1 || r.Err() != api.OK {
		t.Error(l, r.At(), r.Err())
	}
	for _, c := range []struct {
		b     string
		most  int
		e     api.Errno
		at    int
		calls int
	}{
		{"\x01\x03\x00\x00\x00", 2, api.ErrLong, 0, 0},
		{"\x00", -1, api.ErrLong, 0, 0},
		{"\x01\x03\x00\x00", 3, api.ErrShort, 0, 0},
		{"\x08\x7f\xff\xff\xff\xff\xff\xff\xff\x00", math.MaxInt, api.ErrShort, 0, 0},
		{"\x01\x00", 3, api.ErrForm, 0, 0},
		{"", 3, api.ErrShort, 0, 0},
		{"\x01\x03\x00\x09\x00", 3, api.ErrForm, 3, 2},
		{"\x01\x03\x01\x05\x01", 3, api.ErrShort, 4, 2},
	} {
		r := wire.Read([]byte(c.b))
		calls := 0
		l := wire.Items(r, c.most, func(r *wire.Reader) int { calls++; return r.Num() })
		if len(l) != 0 || r.Err() != c.e || r.At() != c.at || calls != c.calls {
			t.Errorf("Items of %x: %v, %d at %d, %d calls", c.b, l, r.Err(), r.At(), calls)
		}
	}
}

func TestItemsWithAnErrorAtTheEnd(t *testing.T) {
	r := wire.Read([]byte("\x01\x01\x00"))
	if l := wire.Items(r, 5, func(r *wire.Reader) string { return r.Text(0) + r.Text(0) }); len(l) != 0 || r.Err() != api.ErrShort {
		t.Error(l, r.Err())
	}
}

func TestReadKeepsACopy(t *testing.T) {
	b := []byte("\x01\x02ab")
	r := wire.Read(b)
	copy(b, "\x09\x09\x09\x09")
	if s := r.Text(2); s != "ab" || r.End() != api.OK {
		t.Errorf("%q %d", s, r.Err())
	}
	b = spare("\x00")
	if r = wire.Read(b); r.Num() != 0 || r.Num() != 0 || r.Err() != api.ErrShort {
		t.Error("the room behind the argument was read")
	}
}

func TestRoundTrip(t *testing.T) {
	for _, n := range numbers() {
		b := wire.Num(nil, n)
		for _, tail := range []string{"", "\x00", "\xff\xff\xff"} {
			r := wire.Read(append(append([]byte(nil), b...), tail...))
			if got := r.Num(); got != n || r.At() != len(b) || r.Err() != api.OK {
				t.Errorf("%d: %d, %d", n, got, r.Err())
			}
		}
		for k := range b {
			r := wire.Read(b[:k])
			if r.Num(); r.Err() != api.ErrShort || r.At() != 0 {
				t.Errorf("%d, %d bytes of it: %d", n, k, r.Err())
			}
		}
	}
	for _, s := range []string{"", "a", "\x00\xff", strings.Repeat("long", 100)} {
		b := wire.Text(nil, s)
		for _, tail := range []string{"", "more"} {
			r := wire.Read(append(append([]byte(nil), b...), tail...))
			if got := r.Text(len(s)); got != s || r.At() != len(b) {
				t.Errorf("%q: %q", s, got)
			}
		}
		for k := range b {
			r := wire.Read(b[:k])
			if r.Text(1000); r.Err() != api.ErrShort || r.At() != 0 {
				t.Errorf("%q, %d bytes of it: %d", s, k, r.Err())
			}
		}
	}
	l := []string{"x", "", "yz"}
	b := wire.List(nil, l, wire.Text)
	text := func(r *wire.Reader) string { return r.Text(2) }
	if got := wire.Items(wire.Read(b), 3, text); !slices.Equal(got, l) {
		t.Errorf("%q", got)
	}
	for k := range b {
		r := wire.Read(b[:k])
		if got := wire.Items(r, 3, text); len(got) != 0 || r.Err() != api.ErrShort {
			t.Errorf("%d bytes of the list: %q, %d", k, got, r.Err())
		}
	}
}

// TestOneEncoding goes through all short byte strings: what is decoded to the end encodes to the same bytes.
func TestOneEncoding(t *testing.T) {
	small := []byte{0, 1, 2, 3, 4, 8, 9, 0x7f, 0x80, 0xff}
	var all func(b []byte, n int)
	all = func(b []byte, n int) {
		same(t, b)
		if n > 0 {
			for _, x := range small {
				all(append(slices.Clip(b), x), n-1)
			}
		}
	}
	all(nil, 5)
}

func same(t *testing.T, b []byte) {
	r := wire.Read(b)
	if n := r.Num(); r.End() == api.OK && !bytes.Equal(wire.Num(nil, n), b) {
		t.Errorf("%x is the number %d", b, n)
	}
	r = wire.Read(b)
	if s := r.Text(100); r.End() == api.OK && !bytes.Equal(wire.Text(nil, s), b) {
		t.Errorf("%x is the string %q", b, s)
	}
	r = wire.Read(b)
	if f := r.Flag(); r.End() == api.OK && !bytes.Equal(wire.Flag(nil, f), b) {
		t.Errorf("%x is the boolean %v", b, f)
	}
	r = wire.Read(b)
	if l := wire.Items(r, 100, (*wire.Reader).Num); r.End() == api.OK && !bytes.Equal(wire.List(nil, l, wire.Num), b) {
		t.Errorf("%x is the list %v", b, l)
	}
}
