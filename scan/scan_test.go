package scan_test

import (
	"bytes"
	"math"
	"slices"
	"testing"

	"spoor/api"
	"spoor/back"
	"spoor/prog"
	"spoor/scan"
	"spoor/syntax"
	"spoor/vm"
)

func compiled(t *testing.T, l ...string) api.Prog {
	t.Helper()
	var rules [][]api.Node
	for _, s := range l {
		nodes, e, at := syntax.Parse(s)
		if e != api.OK {
			t.Fatalf("Parse(%q): %d at %d", s, e, at)
		}
		rules = append(rules, nodes)
	}
	p, e, n := prog.Compile(rules...)
	if e != api.OK {
		t.Fatalf("Compile(%q): %d at %d", l, e, n)
	}
	return p
}

func made(t *testing.T, p api.Prog) *scan.Scanner {
	t.Helper()
	s, e := scan.New(p)
	if e != api.OK || s == nil {
		t.Fatalf("New: %d", e)
	}
	return s
}

// caps fills up with -1.
func caps(l ...int) api.Caps {
	var c api.Caps
	for i := range c {
		c[i] = -1
		if i < len(l) {
			c[i] = l[i]
		}
	}
	return c
}

// same compares scans; empty slices are the same.
func same(a, b api.Scan) bool {
	return bytes.Equal(a.Held, b.Held) && a.Place == b.Place && sameLists(a.Lists, b.Lists)
}

func sameLists(a, b []api.List) bool {
	return slices.EqualFunc(a, b, func(x, y api.List) bool {
		return x.Done == y.Done && x.Best == y.Best && slices.Equal(x.Threads, y.Threads)
	})
}

var wrong = api.Prog{Code: []api.Ins{{Op: api.IClass}}, Starts: []int{0}}

func TestNew(t *testing.T) {
	p := compiled(t, "a", "b")
	s := made(t, p)
	v, _ := vm.New(p)
	if got := s.Scan(); !same(got, api.Scan{Machine: v.Machine()}) {
		t.Error(got)
	}
	if s, e := scan.New(wrong); s != nil || e != api.ErrArg {
		t.Error(e)
	}
}

func TestExampleRun(t *testing.T) {
	s := made(t, compiled(t, "é"))
	s.Feed([]byte{0x61, 0xC3})
	if got := s.Scan(); got.Place != 1 || string(got.Held) != "\xC3" {
		t.Error(got)
	}
	if l := s.Ends(); l[0].Done || l[0].Best != caps() {
		t.Error(l)
	}
	s.Byte(0xA9)
	if got := s.Scan(); got.Place != 3 || len(got.Held) != 0 {
		t.Error(got)
	}
	if l := s.Ends(); !l[0].Done || l[0].Best != caps(1, 3) {
		t.Error(l)
	}
}

func TestEndsCountsHeldBytes(t *testing.T) {
	for _, c := range []struct {
		s, text string
		want    []int
	}{
		{".", "\xE2", []int{0, 1}}, {".+", "\xE2\x82", []int{0, 2}}, {".+", "\xF0\x90\x80", []int{0, 3}}, {"a$", "a\xE2", nil}, {"\uFFFD$", "a\xE2", []int{1, 2}}, {"...", "\xE2\x82", nil}, {"^\uFFFD{2}$", "\xE2\x82", []int{0, 2}},
		{"é", "\xC3", nil},
	} {
		s := made(t, compiled(t, c.s))
		s.Feed([]byte(c.text))
		before := s.Scan()
		if len(before.Held) == 0 {
			t.Errorf("%q: nothing is held", c.text)
		}
		for range 2 {
			if l := s.Ends(); len(l) != 1 || l[0].Done != (c.want != nil) || l[0].Best != caps(c.want...) || len(l[0].Threads) != 0 {
				t.Errorf("%q after %q: %v", c.s, c.text, l)
			}
		}
		if !same(s.Scan(), before) {
			t.Errorf("%q after %q: Ends changes the scanner", c.s, c.text)
		}
	}
}

func TestHeldBytesThatAreNoRune(t *testing.T) {
	s := made(t, compiled(t, "^\uFFFD\uFFFDa$"))
	s.Feed([]byte("\xE2\x82a"))
	if got := s.Scan(); got.Place != 3 || len(got.Held) != 0 {
		t.Error(got)
	}
	if l := s.Ends(); !l[0].Done || l[0].Best != caps(0, 3) {
		t.Error(l)
	}
}

func TestWell(t *testing.T) {
	p := compiled(t, "a")
	good := func() api.Scan {
		s := made(t, p)
		s.Feed([]byte("xa"))
		return s.Scan()
	}
	for i, f := range []func(s *api.Scan){
		func(s *api.Scan) {}, func(s *api.Scan) { s.Held = []byte("\xE2\x82") }, func(s *api.Scan) { s.Held = []byte{} }, func(s *api.Scan) { s.Place = 1 << 40 },
	} {
		s := good()
		f(&s)
		x, e := scan.Of(p, s)
		if !scan.Well(p, s) || e != api.OK || !same(x.Scan(), s) {
			t.Errorf("case %d: %d", i, e)
		}
	}
	for i, f := range []func(s *api.Scan){
		func(s *api.Scan) { s.Held = []byte("a") }, func(s *api.Scan) { s.Held = []byte("\xE2\x82\xAC") }, func(s *api.Scan) { s.Held = []byte("\xE2a") }, func(s *api.Scan) { s.Held = []byte("\xFF") },
		func(s *api.Scan) { s.Place = -1 }, func(s *api.Scan) { s.Place = math.MaxInt }, func(s *api.Scan) { s.Place = 0 }, func(s *api.Scan) { s.Lists = nil }, func(s *api.Scan) { s.Lists[0].Threads[0].Pc = 1 },
		func(s *api.Scan) { *s = api.Scan{} },
	} {
		s := good()
		f(&s)
		x, e := scan.Of(p, s)
		if scan.Well(p, s) || e != api.ErrForm || x != nil {
			t.Errorf("case %d: %d", i, e)
		}
	}
	if x, e := scan.Of(wrong, api.Scan{Held: []byte("a")}); x != nil || e != api.ErrArg || scan.Well(wrong, api.Scan{}) {
		t.Error(e)
	}
}

// TestAnyBytes holds scanners that are fed byte by byte, in parts, and again and again from their states, against the search.
func TestAnyBytes(t *testing.T) {
	p := compiled(t, "(a|é)+", "^.*?(\uFFFD)$", "[^a]{2,3}", "€|b*$")
	seed := uint32(1)
	roll := func(n int) int {
		seed = seed*1664525 + 1013904223
		return int(seed>>8) % n
	}
	parts := []string{"a", "b", "é", "€", "\xC3", "\xE2", "\x82", "\xFF", "\xF0\x90\x80", "\n"}
	for range 600 {
		var text []byte
		for range roll(8) {
			text = append(text, parts[roll(len(parts))]...)
		}
		whole, byByte := made(t, p), made(t, p)
		whole.Feed(text)
		parted := made(t, p)
		for i, c := range text {
			byByte.Byte(c)
			if roll(3) == 0 {
				x, e := scan.Of(p, byByte.Scan())
				if e != api.OK {
					t.Fatalf("%q: %d", text[:i+1], e)
				}
				byByte = x
			}
			s := byByte.Scan()
			if s.Place+len(s.Held) != i+1 || !bytes.Equal(s.Held, text[s.Place:i+1]) || !scan.Well(p, s) {
				t.Fatalf("%q: %v", text[:i+1], s)
			}
			check(t, p, byByte, string(text[:i+1]))
		}
		at := roll(len(text) + 1)
		parted.Feed(text[:at])
		parted.Feed(nil)
		parted.Feed(text[at:])
		if !same(whole.Scan(), byByte.Scan()) || !same(whole.Scan(), parted.Scan()) {
			t.Fatalf("%q: the states differ", text)
		}
	}
}

func check(t *testing.T, p api.Prog, s *scan.Scanner, text string) {
	t.Helper()
	for rule, l := range s.Ends() {
		want, ok := back.Find(p, rule, text)
		if !ok {
			want = caps()
		}
		if l.Done != ok || l.Best != want {
			t.Fatalf("rule %d in %q: %v, not %v %v", rule, text, l, want, ok)
		}
	}
}

func TestMemory(t *testing.T) {
	p := compiled(t, "aé")
	s := made(t, p)
	b := []byte("a\xC3")
	s.Feed(b)
	state := s.Scan()
	x, _ := scan.Of(p, state)
	p.Code[1] = api.Ins{}
	b[1] = 0
	state.Held[0] = 'x'
	state.Lists[0].Threads[0].Pc = 99
	for _, s := range []*scan.Scanner{s, x} {
		s.Byte(0xA9)
		if l := s.Ends(); !l[0].Done || l[0].Best != caps(0, 3) {
			t.Error("memory is shared", l)
		}
	}
}
