package point_test

import (
	"math"
	"strings"
	"testing"

	"spoor/api"
	"spoor/ident"
	"spoor/point"
	"spoor/rules"
	"spoor/stream"
	"spoor/wire"
)

func loaded(t *testing.T, name, text, cont string) *rules.Rules {
	t.Helper()
	r, e, n := rules.Load(api.Set{Rules: []api.Pattern{{Name: name, Text: text}}, Cont: cont})
	if e != api.OK {
		t.Fatalf("Load: %d at %d", e, n)
	}
	return r
}

// live returns the point of a file that was read.
func live(t *testing.T, r *rules.Rules, ino, gen int, text string) point.Point {
	t.Helper()
	x, e := stream.New(r)
	if e != api.OK {
		t.Fatal(e)
	}
	x.Feed([]byte(text))
	return point.Point{Live: true, Entry: api.Entry{Ino: ino, Gen: gen, Head: ident.Head([]byte(text)), Stream: x.State()}}
}

func dead(ino, gen int) point.Point {
	return point.Point{Entry: api.Entry{Ino: ino, Gen: gen}}
}

// same compares points; streams by their bytes.
func same(a, b point.Point) bool {
	return a.Live == b.Live && a.Ino == b.Ino && a.Gen == b.Gen && a.Head == b.Head && string(stream.Put(nil, a.Stream)) == string(stream.Put(nil, b.Stream))
}

func TestWell(t *testing.T) {
	r, cont := loaded(t, "a", "x", ""), loaded(t, "a", "x", "^ ")
	for i, c := range []struct {
		r *rules.Rules
		p point.Point
	}{
		{r, dead(1, 1)}, {nil, dead(12, 1<<40)}, {r, live(t, r, 1, 1, "")}, {r, live(t, r, 12, 1<<40, "a longer text\nthan a fingerprint")}, {cont, live(t, cont, 3, 2, "x\n y")},
	} {
		if !point.Well(c.r, c.p) {
			t.Errorf("case %d is well-formed", i)
		}
	}
	for i, f := range []func(p *point.Point){
		func(p *point.Point) { p.Ino = 0 }, func(p *point.Point) { p.Ino = 13 }, func(p *point.Point) { p.Ino = -1 }, func(p *point.Point) { p.Ino = math.MaxInt },
		func(p *point.Point) { p.Gen = 0 }, func(p *point.Point) { p.Gen = 1<<40 + 1 }, func(p *point.Point) { p.Gen = math.MinInt }, func(p *point.Point) { p.Gen = math.MaxInt },
		func(p *point.Point) { p.Live = !p.Live }, func(p *point.Point) { p.Len += 17 }, func(p *point.Point) { p.Len -= 17 }, func(p *point.Point) { p.Len = 17 }, func(p *point.Point) { p.Len = -1 }, func(p *point.Point) { p.At++ },
		func(p *point.Point) { p.Line += 300 }, func(p *point.Point) { p.Long = true }, func(p *point.Point) { p.Open = !p.Open }, func(p *point.Point) { p.Event++ }, func(p *point.Point) { p.Size++ }, func(p *point.Point) { p.Ends = append(p.Ends, api.List{Done: true}) },
		func(p *point.Point) { p.Cur.Place++ }, func(p *point.Point) { p.Alt.Held = []byte{0xE2} }, func(p *point.Point) { p.Con.Lists = []api.List{{}} }, func(p *point.Point) { p.Con.Held = []byte{1} }, func(p *point.Point) { p.Cur.Lists = make([]api.List, 3) },
	} {
		for k, p := range []point.Point{dead(1, 1), live(t, cont, 1, 1, "x\n y")} {
			f(&p)
			if point.Well(cont, p) || point.Encode(cont, p) != "" {
				t.Errorf("case %d, %d is not well-formed", i, k)
			}
		}
	}
	p := dead(1, 1)
	p.Sum = 1
	if point.Well(r, p) || point.Well(nil, live(t, r, 1, 1, "")) || point.Well(cont, live(t, r, 1, 1, "")) || point.Encode(nil, live(t, r, 1, 1, "")) != "" {
		t.Error("Well")
	}
	// Whether a fingerprint fits is not asked.
	q := live(t, r, 1, 1, "abc")
	q.Len, q.Sum = 16, math.MaxUint32
	if !point.Well(r, q) {
		t.Error("a fingerprint of any kind")
	}
	// Slices without elements are zero.
	p = dead(1, 1)
	p.Ends, p.Cur.Held, p.Con.Lists = []api.List{}, []byte{}, []api.List{}
	if !point.Well(nil, p) || point.Encode(nil, p) != "\x00\x01\x01\x01\x01" {
		t.Error("slices without elements")
	}
}

func TestEncode(t *testing.T) {
	r := loaded(t, "a", "x", "^ ")
	if s := point.Encode(nil, dead(3, 2)); s != "\x00\x01\x03\x01\x02" {
		t.Errorf("%x", s)
	}
	if s := point.Encode(r, dead(3, 300)); s != "\x00\x01\x03\x02\x01\x2c" {
		t.Errorf("%x", s)
	}
	p := live(t, r, 3, 2, "x\n y\nz\xE2")
	p.Sum = math.MaxUint32
	b := wire.Num([]byte("\x01\x01\x01\x03\x01\x02"), r.Hash())
	want := stream.Put(wire.Num(wire.Num(b, p.Len), math.MaxUint32), p.Stream)
	if s := point.Encode(r, p); s != string(want) {
		t.Errorf("%x, not %x", s, want)
	}
}

func TestDecode(t *testing.T) {
	r := loaded(t, "a", "x", "^ ")
	other := loaded(t, "b", "x", "^ ")
	for i, p := range []point.Point{dead(1, 1), dead(12, 1<<40), live(t, r, 1, 1, ""), live(t, r, 5, 7, "x\n y\nz\xE2"), live(t, r, 5, 7, strings.Repeat("y", 300))} {
		s := point.Encode(r, p)
		got, e := point.Decode(r, s)
		if e != api.OK || !same(got, p) || point.Encode(r, got) != s {
			t.Errorf("case %d: %v, %d", i, got, e)
		}
		for k := range len(s) {
			if got, e := point.Decode(r, s[:k]); e != api.ErrShort || !same(got, point.Point{}) {
				t.Errorf("case %d, %d bytes: %d", i, k, e)
			}
		}
		if got, e := point.Decode(r, s+"\x00"); e != api.ErrTail || !same(got, point.Point{}) {
			t.Errorf("case %d, one byte more: %d", i, e)
		}
		want := api.OK
		if p.Live {
			want = api.ErrStale
		}
		for _, q := range []*rules.Rules{other, nil} {
			if got, e := point.Decode(q, s); e != want || (e == api.OK) != same(got, p) {
				t.Errorf("case %d, other rules: %v, %d", i, got, e)
			}
		}
	}
}

func TestDecodeErrors(t *testing.T) {
	r := loaded(t, "a", "x", "")
	hash := string(wire.Num(nil, r.Hash()))
	body := string(stream.Put(nil, live(t, r, 1, 1, "").Stream))
	bad := live(t, r, 1, 1, "").Stream
	bad.At = 5
	for i, c := range []struct {
		r *rules.Rules
		s string
		e api.Errno
	}{
		{r, "", api.ErrShort}, {r, "\x01\x02", api.ErrForm}, {r, "\x09", api.ErrForm}, {nil, "\x01\x01\x01\x01\x01\x01", api.ErrShort}, {nil, "\x01\x01\x01\x01\x01\x01\x09", api.ErrForm}, {r, "\x01\x01\x01\x01\x01\x01\x01", api.ErrShort},
		{r, "\x01\x01\x01\x01\x01\x01\x00", api.ErrStale}, {r, "\x01\x01\x01\x01\x01\x01\x00\x09", api.ErrStale}, {nil, "\x01\x01\x01\x01\x01\x01" + hash, api.ErrStale}, {nil, "\x01\x01\x00\x00" + hash + "\x09", api.ErrStale},
		{r, "\x01\x01\x01\x01\x01\x01" + hash, api.ErrShort}, {r, "\x01\x01\x01\x01\x01\x01" + hash + "\x01\x11", api.ErrLong}, {r, "\x01\x01\x01\x01\x01\x01" + hash + "\x00\x05\x01\x00\x00\x00\x00", api.ErrLong}, {r, "\x01\x01\x01\x01\x01\x01" + hash + "\x00\x00\x09", api.ErrForm},
		{r, "\x01\x01\x01\x01\x01\x01" + hash + "\x00\x00" + body + "\x00", api.ErrTail}, {r, "\x01\x01\x01\x01\x01\x01" + hash + "\x00\x00" + string(stream.Put(nil, bad)), api.ErrForm}, {r, "\x01\x01\x01\x01\x01\x01" + hash + "\x00\x00" + string(stream.Put(nil, bad)) + "x", api.ErrTail},
		{r, "\x01\x01\x00\x01\x01" + hash + "\x00\x00" + body, api.ErrForm}, {r, "\x01\x01\x01\x0d\x01\x01" + hash + "\x00\x00" + body, api.ErrForm}, {r, "\x01\x01\x01\x01\x00" + hash + "\x00\x00" + body, api.ErrForm},
		{r, "\x00\x00\x01\x01", api.ErrForm}, {r, "\x00\x01\x0d\x01\x01", api.ErrForm}, {r, "\x00\x01\x01\x00", api.ErrForm}, {nil, "\x00\x01\x01\x06\x01\x00\x00\x00\x00\x01", api.ErrForm}, {nil, "\x00\x01\x01\x01\x01\x00", api.ErrTail}, {nil, "\x00\x01\x0d\x01\x01\x00", api.ErrTail},
	} {
		if got, e := point.Decode(c.r, c.s); e != c.e || !same(got, point.Point{}) {
			t.Errorf("case %d: %d, not %d", i, e, c.e)
		}
	}
	// The greatest numbers.
	for _, s := range []string{"\x00\x01\x0c\x06\x01\x00\x00\x00\x00\x00", "\x01\x01\x01\x01\x01\x01" + hash + "\x01\x10\x04\xff\xff\xff\xff" + body} {
		if p, e := point.Decode(r, s); e != api.OK || point.Encode(r, p) != s {
			t.Errorf("%x: %d", s, e)
		}
	}
}

// TestHostileBytes changes bytes: what is accepted must be well-formed, and have these bytes.
func TestHostileBytes(t *testing.T) {
	r := loaded(t, "a", "(x|y)+z", "^ ")
	good := point.Encode(r, live(t, r, 3, 2, "xyz\n x\xC3\xA9\n xy\xE2"))
	seed := uint32(1)
	roll := func(n int) int {
		seed = seed*1664525 + 1013904223
		return int(seed>>8) % n
	}
	accepted := 0
	for range 20000 {
		b := []byte(good)
		for range 1 + roll(2) {
			at := roll(len(b))
			if at > 5 && at < 13 && roll(9) > 0 {
				continue
			}
			b[at] = byte(roll([]int{12, 256}[roll(2)]))
		}
		p, e := point.Decode(r, string(b))
		if e != api.OK {
			if !same(p, point.Point{}) {
				t.Fatalf("%x: %d with a point", b, e)
			}
			continue
		}
		accepted++
		if !point.Well(r, p) || point.Encode(r, p) != string(b) {
			t.Fatalf("%x: %v", b, p)
		}
		x, e := stream.Of(r, p.Stream)
		if e != api.OK {
			t.Fatal(e)
		}
		x.Feed([]byte("z\n z\nq\n"))
	}
	if accepted < 100 {
		t.Error("too little was accepted:", accepted)
	}
}
