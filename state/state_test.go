package state_test

import (
	"bytes"
	"math"
	"slices"
	"strings"
	"testing"

	"spoor/api"
	"spoor/prog"
	"spoor/scan"
	"spoor/state"
	"spoor/sum"
	"spoor/syntax"
	"spoor/wire"
)

func compiled(t *testing.T, l ...string) api.Prog {
	t.Helper()
	var rules [][]api.Node
	for _, s := range l {
		nodes, e, at := syntax.Parse(s)
		if e != api.OK {
			t.Fatalf("Parse(%q): %d at %d", s, e, at)
		}
		rules = append(rules, nodes)
	}
	p, e, n := prog.Compile(rules...)
	if e != api.OK {
		t.Fatalf("Compile(%q): %d at %d", l, e, n)
	}
	return p
}

// after returns the scan of a program after a text.
func after(t *testing.T, p api.Prog, text string) api.Scan {
	t.Helper()
	s, e := scan.New(p)
	if e != api.OK {
		t.Fatal(e)
	}
	s.Feed([]byte(text))
	return s.Scan()
}

// same compares scans; empty slices are the same.
func same(a, b api.Scan) bool {
	return bytes.Equal(a.Held, b.Held) && a.Place == b.Place && sameLists(a.Lists, b.Lists)
}

func sameLists(a, b []api.List) bool {
	return slices.EqualFunc(a, b, func(x, y api.List) bool {
		return x.Done == y.Done && x.Best == y.Best && slices.Equal(x.Threads, y.Threads)
	})
}

// hashed is the hash of P17.1 for bytes.
func hashed(s string) int {
	b := []byte(s)
	return int(sum.Of(b))*65536 + int(sum.On(1, b))%65536
}

func TestHash(t *testing.T) {
	for _, c := range []struct {
		p    api.Prog
		want string
	}{
		{api.Prog{}, "\x00\x00"},
		{compiled(t, "a"), "\x01\x01\x00" + "\x01\x04" + "\x01\x04\x00\x00\x00" + "\x01\x01\x00\x00\x01\x01\x01\x61\x01\x61" + "\x01\x04\x01\x01\x00\x00" + "\x01\x07\x00\x00\x00"},
		{api.Prog{Code: []api.Ins{{Op: -1, X: -5, Y: 256, Ranges: []api.Range{{Lo: -3, Hi: 0x10FFFF}}}}, Starts: []int{-1, 300}}, "\x01\x02\x00\x02\x01\x2c" + "\x01\x01" + "\x00\x00\x02\x01\x00\x01\x01\x00\x03\x10\xff\xff"},
	} {
		if got := state.Hash(c.p); got != hashed(c.want) {
			t.Errorf("Hash(%v) = %x, not %x", c.p, got, hashed(c.want))
		}
	}
}

func TestHashTellsProgramsApart(t *testing.T) {
	seen := map[int]string{}
	for _, s := range []string{"", "a", "b", "a*", "a*?", "a|b", "b|a", "[a-c]", "[a-d]", "(a)", "^a", "a$", "aa", "a{3}", "\u0100", "\U0010FFFF"} {
		h := state.Hash(compiled(t, s))
		if other, there := seen[h]; there || h < 0 || h >= 1<<48 {
			t.Errorf("%q and %q", s, other)
		}
		seen[h] = s
	}
	if state.Hash(compiled(t, "a", "b")) == state.Hash(compiled(t, "b", "a")) {
		t.Error("the order of the rules")
	}
}

func caps(l ...int) api.Caps {
	var c api.Caps
	for i := range c {
		c[i] = -1
		if i < len(l) {
			c[i] = l[i]
		}
	}
	return c
}

const zeros8, zeros10 = "\x00\x00\x00\x00\x00\x00\x00\x00", "\x00\x00\x00\x00\x00\x00\x00\x00\x00\x00"

func TestPut(t *testing.T) {
	for _, c := range []struct {
		l    []api.List
		want string
	}{
		{nil, "\x00"},
		{[]api.List{{Best: caps()}}, "\x01\x01" + "\x00" + zeros10 + "\x00"},
		{[]api.List{{Done: true, Best: caps(0, 255), Threads: []api.Thread{{Pc: 3, Caps: caps(1, 2)}, {Pc: 400, Caps: caps()}}}, {Best: caps()}},
			"\x01\x02" + "\x01\x01" + "\x01\x01\x02\x01\x00" + zeros8 + "\x01\x02" + "\x01\x03\x01\x02\x01\x03" + zeros8 + "\x02\x01\x90" + zeros10 + "\x00" + zeros10 + "\x00"},
		{[]api.List{{Best: caps(-2, math.MinInt), Threads: []api.Thread{{Pc: -7, Caps: caps()}}}}, "\x01\x01" + "\x00" + zeros10 + "\x01\x01" + "\x00" + zeros10},
		{[]api.List{{Best: caps(math.MaxInt, math.MaxInt-1)}}, "\x01\x01" + "\x00" + strings.Repeat("\x08\x7f\xff\xff\xff\xff\xff\xff\xff", 2) + zeros8 + "\x00"},
	} {
		if got := state.PutLists([]byte("q"), c.l); string(got) != "q"+c.want {
			t.Errorf("PutLists of %v: %x, not %x", c.l, got, "q"+c.want)
		}
		s := api.Scan{Held: []byte("\xE2\x82"), Machine: api.Machine{Place: 7, Lists: c.l}}
		if got := state.PutScan([]byte("q"), s); string(got) != "q\x01\x02\xE2\x82\x01\x07"+c.want {
			t.Errorf("PutScan of %v: %x", s, got)
		}
	}
	if got := state.PutScan(nil, api.Scan{Machine: api.Machine{Place: -1}}); string(got) != "\x00\x00\x00" {
		t.Errorf("%x", got)
	}
}

func TestGet(t *testing.T) {
	l := []api.List{{Done: true, Best: caps(0, 255), Threads: []api.Thread{{Pc: 3, Caps: caps(1, 2)}, {Pc: 400, Caps: caps()}}}, {Best: caps(5)}}
	s := api.Scan{Held: []byte("abc"), Machine: api.Machine{Place: math.MaxInt, Lists: l}}
	b := state.PutScan(nil, s)
	r := wire.Read(append(slices.Clip(b), "rest"...))
	if got := state.GetScan(r); !same(got, s) || r.At() != len(b) || r.Err() != api.OK {
		t.Error(got, r.Err())
	}
	b = state.PutLists(nil, l)
	r = wire.Read(append(slices.Clip(b), "rest"...))
	if got := state.GetLists(r); !sameLists(got, l) || r.At() != len(b) || r.Err() != api.OK {
		t.Error(got, r.Err())
	}
	for k := range b {
		r := wire.Read(b[:k])
		if state.GetLists(r); r.Err() != api.ErrShort {
			t.Errorf("%d bytes: %d", k, r.Err())
		}
	}
}

func TestGetLimits(t *testing.T) {
	threads := make([]api.Thread, api.MaxProg)
	for i := range threads {
		threads[i] = api.Thread{Pc: i, Caps: caps()}
	}
	full := []api.List{{Best: caps(), Threads: threads}}
	for len(full) < api.MaxRules {
		full = append(full, api.List{Best: caps()})
	}
	r := wire.Read(state.PutLists(nil, full))
	if got := state.GetLists(r); !sameLists(got, full) || r.End() != api.OK {
		t.Error(r.Err())
	}
	r = wire.Read(state.PutLists(nil, append(slices.Clip(full), api.List{Best: caps()})))
	if state.GetLists(r); r.Err() != api.ErrLong || r.At() != 0 {
		t.Error(r.Err())
	}
	r = wire.Read(state.PutLists(nil, []api.List{{Best: caps(), Threads: append(slices.Clip(threads), api.Thread{Caps: caps()})}}))
	if state.GetLists(r); r.Err() != api.ErrLong || r.At() != 13 {
		t.Error(r.Err(), r.At())
	}
	r = wire.Read([]byte("\x01\x04abcd\x00\x00"))
	if state.GetScan(r); r.Err() != api.ErrLong || r.At() != 0 {
		t.Error(r.Err())
	}
	r = wire.Read([]byte("\x01\x01\x01\x02" + zeros10 + "\x00"))
	if state.GetLists(r); r.Err() != api.ErrForm || r.At() != 2 {
		t.Error(r.Err())
	}
}

func TestEncode(t *testing.T) {
	p := compiled(t, "a")
	s := after(t, p, "xa\xE2")
	want := state.PutScan(wire.Num(nil, state.Hash(p)), s)
	if got := state.Encode(p, s); !bytes.Equal(got, want) {
		t.Errorf("%x, not %x", got, want)
	}
	for i, f := range []func(s *api.Scan){
		func(s *api.Scan) { s.Place = -1 }, func(s *api.Scan) { s.Held = []byte("a") }, func(s *api.Scan) { s.Lists = nil }, func(s *api.Scan) { s.Place = 0 },
	} {
		s := after(t, p, "xa\xE2")
		f(&s)
		if got := state.Encode(p, s); len(got) != 0 {
			t.Errorf("case %d: %x", i, got)
		}
	}
	if got := state.Encode(api.Prog{Starts: []int{0}}, api.Scan{}); len(got) != 0 {
		t.Errorf("%x", got)
	}
	if got := state.Encode(compiled(t, "a", "b"), s); len(got) != 0 {
		t.Errorf("a scan of another program: %x", got)
	}
}

func TestDecodeErrors(t *testing.T) {
	p := compiled(t, "a")
	s := after(t, p, "xa")
	b := state.Encode(p, s)
	if got, e := state.Decode(p, b); e != api.OK || !same(got, s) {
		t.Error(got, e)
	}
	hash := wire.Num(nil, state.Hash(p))
	bad := s
	bad.Place = 0
	for i, c := range []struct {
		p api.Prog
		b []byte
		e api.Errno
	}{
		{api.Prog{Starts: []int{0}}, b, api.ErrArg}, {api.Prog{Code: []api.Ins{{}}}, nil, api.ErrArg},
		{p, nil, api.ErrShort}, {p, []byte{9}, api.ErrForm}, {p, hash[:3], api.ErrShort}, {p, []byte{1, 0}, api.ErrForm},
		{compiled(t, "b"), b, api.ErrStale}, {compiled(t, "a", "a"), b, api.ErrStale}, {p, []byte{0}, api.ErrStale}, {p, []byte{0, 9}, api.ErrStale}, {compiled(t, "b"), append(slices.Clip(b), 0), api.ErrStale},
		{p, b[:len(b)-1], api.ErrShort}, {p, hash, api.ErrShort}, {p, append(slices.Clip(b), 0), api.ErrTail}, {p, append(slices.Clip(hash), 9), api.ErrForm}, {p, append(slices.Clip(hash), 1, 4), api.ErrLong},
		{p, state.PutScan(hash, bad), api.ErrForm}, {p, append(state.PutScan(hash, bad), 0), api.ErrTail}, {p, state.PutScan(hash, api.Scan{}), api.ErrForm},
		{p, state.PutScan(hash, api.Scan{Held: []byte("a"), Machine: s.Machine}), api.ErrForm},
	} {
		if got, e := state.Decode(c.p, c.b); e != c.e || !same(got, api.Scan{}) {
			t.Errorf("case %d: %d, not %d", i, e, c.e)
		}
	}
}

// TestSuspension stops scans behind each byte, and goes on from their bytes.
func TestSuspension(t *testing.T) {
	p := compiled(t, "(a|é)+?b", "^.*(\uFFFD)$", "[^a]{2,5}|x", "")
	text := []byte("aéab\xE2\x82x€\n\xFFaa\xF0\x90\x80b")
	whole, _ := scan.New(p)
	x, _ := scan.New(p)
	for i, c := range text {
		b := state.Encode(p, x.Scan())
		s, e := state.Decode(p, b)
		if e != api.OK || !same(s, x.Scan()) || !bytes.Equal(state.Encode(p, s), b) {
			t.Fatalf("after %d bytes: %d", i, e)
		}
		for k := range b {
			if _, e := state.Decode(p, b[:k]); e != api.ErrShort {
				t.Fatalf("after %d bytes, %d of them: %d", i, k, e)
			}
		}
		x, e = scan.Of(p, s)
		if e != api.OK {
			t.Fatal(e)
		}
		x.Byte(c)
		whole.Byte(c)
		if !same(x.Scan(), whole.Scan()) || !sameLists(x.Ends(), whole.Ends()) {
			t.Fatalf("after %d bytes: the scans differ", i+1)
		}
	}
}

// TestHostileBytes changes bytes: what is accepted must be well-formed, and have these bytes.
func TestHostileBytes(t *testing.T) {
	p := compiled(t, "(a|é)+?b", "^.*(x)$")
	good := state.Encode(p, after(t, p, "aéa\xE2\x82"))
	seed := uint32(1)
	roll := func(n int) int {
		seed = seed*1664525 + 1013904223
		return int(seed>>8) % n
	}
	accepted := 0
	for range 30000 {
		b := slices.Clone(good)
		for range 1 + roll(3) {
			at := roll(len(b))
			switch roll(3) {
			case 0:
				b[at] = byte(roll(12))
			case 1:
				b[at] = byte(roll(256))
			default:
				b = slices.Delete(b, at, at+1)
			}
		}
		s, e := state.Decode(p, b)
		if e != api.OK {
			if !same(s, api.Scan{}) {
				t.Fatalf("%x: %d with a scan", b, e)
			}
			continue
		}
		accepted++
		if !scan.Well(p, s) || !bytes.Equal(state.Encode(p, s), b) {
			t.Fatalf("%x: %v", b, s)
		}
		x, e := scan.Of(p, s)
		if e != api.OK {
			t.Fatal(e)
		}
		x.Feed([]byte("ab€"))
		x.Ends()
	}
	if accepted < 100 {
		t.Error("too little was accepted:", accepted)
	}
}

func TestMemory(t *testing.T) {
	p := compiled(t, "a")
	s := after(t, p, "xa\xE2")
	b := append(make([]byte, 0, 400), "head"...)
	one, two := state.PutScan(b, s), state.PutLists(b, s.Lists)
	if !bytes.Equal(b[:400][4:], make([]byte, 396)) {
		t.Error("the room behind the argument was written")
	}
	for _, r := range [][]byte{one, two} {
		for i := range r[:cap(r)] {
			r[:cap(r)][i] = 0xEE
		}
	}
	if string(b) != "head" || !same(s, after(t, p, "xa\xE2")) {
		t.Error("memory is shared")
	}
	enc := state.Encode(p, s)
	got, _ := state.Decode(p, enc)
	for i := range enc {
		enc[i] = 0
	}
	if !same(got, s) {
		t.Error("memory is shared")
	}
}
