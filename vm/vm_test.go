package vm_test

import (
	"math"
	"slices"
	"strings"
	"testing"

	"spoor/api"
	"spoor/back"
	"spoor/class"
	"spoor/prog"
	"spoor/syntax"
	"spoor/utf"
	"spoor/vm"
)

func compiled(t *testing.T, l ...string) api.Prog {
	t.Helper()
	var rules [][]api.Node
	for _, s := range l {
		nodes, e, at := syntax.Parse(s)
		if e != api.OK {
			t.Fatalf("Parse(%q): %d at %d", s, e, at)
		}
		rules = append(rules, nodes)
	}
	p, e, n := prog.Compile(rules...)
	if e != api.OK {
		t.Fatalf("Compile(%q): %d at %d", l, e, n)
	}
	return p
}

func made(t *testing.T, p api.Prog) *vm.VM {
	t.Helper()
	v, e := vm.New(p)
	if e != api.OK || v == nil {
		t.Fatalf("New: %d", e)
	}
	return v
}

// caps fills up with -1.
func caps(l ...int) api.Caps {
	var c api.Caps
	for i := range c {
		c[i] = -1
		if i < len(l) {
			c[i] = l[i]
		}
	}
	return c
}

func thread(pc int, l ...int) api.Thread {
	return api.Thread{Pc: pc, Caps: caps(l...)}
}

func feed(v *vm.VM, s string) {
	for _, g := range utf.All([]byte(s)) {
		v.Step(g.R, g.N)
	}
}

// same compares machines; lists of threads that are empty are the same.
func same(a, b api.Machine) bool {
	return a.Place == b.Place && sameLists(a.Lists, b.Lists)
}

func sameLists(a, b []api.List) bool {
	return slices.EqualFunc(a, b, func(x, y api.List) bool {
		return x.Done == y.Done && x.Best == y.Best && slices.Equal(x.Threads, y.Threads)
	})
}

func list(done bool, best api.Caps, l ...api.Thread) api.List {
	return api.List{Done: done, Best: best, Threads: l}
}

func TestNew(t *testing.T) {
	m := made(t, compiled(t, "a+", "b")).Machine()
	want := api.Machine{Lists: []api.List{list(false, caps(), thread(0)), list(false, caps(), thread(7))}}
	if !same(m, want) {
		t.Error(m)
	}
	if m = made(t, api.Prog{}).Machine(); m.Place != 0 || len(m.Lists) != 0 {
		t.Error(m)
	}
	for _, p := range []api.Prog{{Starts: []int{0}}, {Code: []api.Ins{{Op: api.IClass}}}, {Code: []api.Ins{{}}}} {
		if v, e := vm.New(p); v != nil || e != api.ErrArg {
			t.Error(p, e)
		}
		if v, e := vm.Of(p, api.Machine{}); v != nil || e != api.ErrArg {
			t.Error(p, e)
		}
	}
}

// TestStates follows machines rune by rune.
func TestStates(t *testing.T) {
	for _, c := range []struct {
		s, text string
		want    api.Machine
	}{
		{"a+", "a", api.Machine{Place: 1, Lists: []api.List{list(false, caps(), thread(2, 0), thread(0))}}},
		{"a+", "ab", api.Machine{Place: 2, Lists: []api.List{list(true, caps(0, 1))}}},
		{"a+", "aa", api.Machine{Place: 2, Lists: []api.List{list(true, caps(0, 1), thread(4, 0))}}},
		{"a+", "b", api.Machine{Place: 1, Lists: []api.List{list(false, caps(), thread(0))}}},
		{"a+?", "aa", api.Machine{Place: 2, Lists: []api.List{list(true, caps(0, 1))}}},
		{"a|ab", "a", api.Machine{Place: 1, Lists: []api.List{list(false, caps(), thread(3, 0), thread(5, 0), thread(0))}}},
		{"a|ab", "ab", api.Machine{Place: 2, Lists: []api.List{list(true, caps(0, 1))}}},
		{"ab|a", "ab", api.Machine{Place: 2, Lists: []api.List{list(true, caps(0, 1), thread(4, 0))}}},
		{"b$", "b", api.Machine{Place: 1, Lists: []api.List{list(false, caps(), thread(2, 0), thread(0))}}},
		{"b$", "bb", api.Machine{Place: 2, Lists: []api.List{list(false, caps(), thread(2, 1), thread(0))}}},
		{"^b", "ab", api.Machine{Place: 2, Lists: []api.List{list(false, caps(), thread(0))}}},
		{"^b", "b", api.Machine{Place: 1, Lists: []api.List{list(false, caps(), thread(3, 0), thread(0))}}},
		{"(a)|(b)", "ab", api.Machine{Place: 2, Lists: []api.List{list(true, caps(0, 1, 0, 1))}}},
		{"é.", "éé", api.Machine{Place: 4, Lists: []api.List{list(false, caps(), thread(3, 0), thread(2, 2), thread(0))}}},
		{"", "a", api.Machine{Place: 1, Lists: []api.List{list(true, caps(0, 0))}}},
		// Of two threads at one instruction the first one stays: it began earlier.
		{".*b", "aa", api.Machine{Place: 2, Lists: []api.List{list(false, caps(), thread(3, 0), thread(0))}}},
		// What was ready ahead of a match goes on after it, and may find what is better.
		{"abc|a", "ab", api.Machine{Place: 2, Lists: []api.List{list(true, caps(0, 1), thread(4, 0))}}},
	} {
		v := made(t, compiled(t, c.s))
		feed(v, c.text)
		if m := v.Machine(); !same(m, c.want) {
			t.Errorf("%q after %q: %v, not %v", c.s, c.text, m, c.want)
		}
	}
}

func TestListsDoNotAffectOneAnother(t *testing.T) {
	all := []string{"a+", "^b|$", "[ab]*?c"}
	v := made(t, compiled(t, all...))
	text := "abac"
	for i := range len(text) {
		feed(v, text[i:i+1])
		for rule, s := range all {
			w := made(t, compiled(t, s))
			feed(w, text[:i+1])
			x, y := v.Machine().Lists[rule], w.Machine().Lists[0]
			if x.Done != y.Done || x.Best != y.Best || len(x.Threads) != len(y.Threads) {
				t.Errorf("rule %d after %q: %v, not %v", rule, text[:i+1], x, y)
			}
		}
	}
}

func TestEnds(t *testing.T) {
	for _, c := range []struct {
		s, text string
		want    []int
	}{
		{"a+", "a", []int{0, 1}}, {"a+", "", nil}, {"a+", "ba", []int{1, 2}}, {"ab|a", "ab", []int{0, 2}}, {"a|ab", "ab", []int{0, 1}}, {"b$", "b", []int{0, 1}}, {"b$", "bc", nil},
		{"((($)|.)+)", "a", []int{0, 1, 0, 1, 0, 1, -1, -1}}, {"^$", "", []int{0, 0}}, {"^$", "a", nil}, {"x", "y", nil}, {"", "ab", []int{0, 0}}, {"$", "ab", []int{2, 2}}, {"é$", "aé", []int{1, 3}},
	} {
		v := made(t, compiled(t, c.s))
		feed(v, c.text)
		before := v.Machine()
		for range 2 {
			l := v.Ends()
			if len(l) != 1 || l[0].Done != (c.want != nil) || l[0].Best != caps(c.want...) || len(l[0].Threads) != 0 {
				t.Errorf("%q after %q: %v", c.s, c.text, l)
			}
		}
		if !same(v.Machine(), before) {
			t.Errorf("%q after %q: Ends changes the machine", c.s, c.text)
		}
	}
	if l := made(t, api.Prog{}).Ends(); len(l) != 0 {
		t.Error(l)
	}
}

func TestBytesOfARune(t *testing.T) {
	for _, c := range []struct{ n, place int }{{math.MinInt, 0}, {-1, 0}, {0, 0}, {1, 1}, {3, 3}, {4, 4}, {5, 4}, {math.MaxInt, 4}} {
		v := made(t, compiled(t, "a"))
		v.Step('a', c.n)
		if m := v.Machine(); m.Place != c.place {
			t.Errorf("%d bytes: at %d", c.n, m.Place)
		}
		if l := v.Ends(); !l[0].Done || l[0].Best != caps(0, c.place) {
			t.Errorf("%d bytes: %v", c.n, l)
		}
	}
	v := made(t, compiled(t, "^b"))
	v.Step('a', 0)
	v.Step('b', 1)
	if l := v.Ends(); !l[0].Done {
		t.Error("the position is still 0: ", l)
	}
	for _, r := range []rune{-1, math.MinInt32, math.MaxInt32, 0xD800, 0x110000} {
		v = made(t, compiled(t, "[^a]"))
		v.Step(r, 1)
		if l := v.Ends(); l[0].Done {
			t.Error("a number that is no rune: ", r)
		}
	}
}

// good is a well-formed state of the rules ab* and c: 0 save, 1 a, 2 split, 3 b, 4 jump, 5 save, 6 match; 7 save, 8 c, 9 save, 10 match.
func good() api.Machine {
	return api.Machine{Place: 5, Lists: []api.List{list(true, caps(0, 5), thread(4, 0), thread(2, 5), thread(0)), list(false, caps(), thread(9, 3), thread(7))}}
}

func TestWell(t *testing.T) {
	p := compiled(t, "ab*", "c")
	for i, f := range []func(m *api.Machine){
		func(m *api.Machine) {},
		func(m *api.Machine) { m.Place = 1 << 40 },
		func(m *api.Machine) { m.Lists[0].Threads = nil },
		func(m *api.Machine) { m.Lists[0].Best = caps() },
		func(m *api.Machine) { m.Lists[0].Threads[0].Caps = caps(5, 5, 5, 5, 5, 5, 5, 5, 5, 5) },
		func(m *api.Machine) { m.Lists[1] = list(true, caps(3, 2)) },
	} {
		m := good()
		f(&m)
		if !vm.Well(p, m) {
			t.Errorf("case %d is well-formed", i)
		}
		v, e := vm.Of(p, m)
		if e != api.OK || !same(v.Machine(), m) {
			t.Errorf("case %d: %d", i, e)
		}
	}
}

func TestNotWell(t *testing.T) {
	p := compiled(t, "ab*", "c")
	for i, f := range []func(m *api.Machine){
		func(m *api.Machine) { m.Place = -1 },
		func(m *api.Machine) { m.Place = math.MinInt },
		func(m *api.Machine) { m.Place = 1<<40 + 1 },
		func(m *api.Machine) { m.Place = math.MaxInt },
		func(m *api.Machine) { m.Place = 4 },
		func(m *api.Machine) { m.Lists = m.Lists[:1] },
		func(m *api.Machine) { m.Lists = nil },
		func(m *api.Machine) { m.Lists = append(m.Lists, list(false, caps())) },
		func(m *api.Machine) { m.Lists[1].Best = caps(0) },
		func(m *api.Machine) { m.Lists[1].Best = api.Caps{} },
		func(m *api.Machine) { m.Lists[0].Best[9] = -2 },
		func(m *api.Machine) { m.Lists[0].Best[9] = 6 },
		func(m *api.Machine) { m.Lists[0].Done = false },
		func(m *api.Machine) { m.Lists[0].Threads[1].Caps[3] = 6 },
		func(m *api.Machine) { m.Lists[0].Threads[1].Caps[3] = math.MinInt },
		func(m *api.Machine) { m.Lists[0].Threads[1].Pc = 4 },
		func(m *api.Machine) { m.Lists[0].Threads[1].Pc = 0 },
		func(m *api.Machine) { m.Lists[0].Threads[0].Pc = 1 },
		func(m *api.Machine) { m.Lists[0].Threads[0].Pc = 3 },
		func(m *api.Machine) { m.Lists[0].Threads[0].Pc = 6 },
		func(m *api.Machine) { m.Lists[0].Threads[0].Pc = -1 },
		func(m *api.Machine) { m.Lists[0].Threads[0].Pc = 11 },
		func(m *api.Machine) { m.Lists[0].Threads[0].Pc = math.MaxInt },
		func(m *api.Machine) { m.Lists[0].Threads[0].Pc = 9 },
		func(m *api.Machine) { m.Lists[0].Threads[0].Pc = 7 },
		func(m *api.Machine) { m.Lists[1].Threads[0].Pc = 2 },
		func(m *api.Machine) { m.Lists[0], m.Lists[1] = m.Lists[1], m.Lists[0] },
	} {
		m := good()
		f(&m)
		if vm.Well(p, m) {
			t.Errorf("case %d is not well-formed: %v", i, m)
		}
		if v, e := vm.Of(p, m); v != nil || e != api.ErrForm {
			t.Errorf("case %d: %d", i, e)
		}
	}
}

func TestWellOfSmallPrograms(t *testing.T) {
	if vm.Well(api.Prog{Starts: []int{0}}, api.Machine{}) || !vm.Well(api.Prog{}, api.Machine{}) || !vm.Well(api.Prog{}, api.Machine{Place: 9}) {
		t.Error("Well of small programs")
	}
	if vm.Well(api.Prog{}, api.Machine{Place: -1}) || vm.Well(api.Prog{}, api.Machine{Place: 1<<40 + 1}) || vm.Well(api.Prog{Code: []api.Ins{{Op: api.IClass}}, Starts: []int{0}}, api.Machine{Lists: []api.List{list(false, caps())}}) {
		t.Error("Well of places and programs that cannot be")
	}
	// An IClass that the rule does not reach: no thread waits behind it.
	q := api.Prog{Code: []api.Ins{{Op: api.IMatch}, {Op: api.IClass}, {Op: api.IMatch}}, Starts: []int{0}}
	if vm.Well(q, api.Machine{Lists: []api.List{list(false, caps(), thread(2))}}) {
		t.Error("behind an IClass that is not reached")
	}
}

// TestStartBehindAClass: a thread that came to the start of the rule is kept, and no other one begins there.
func TestStartBehindAClass(t *testing.T) {
	a := []api.Range{{Lo: 'a', Hi: 'a'}}
	p := api.Prog{Code: []api.Ins{{Op: api.IClass, Ranges: a}, {Op: api.ISave, X: 1}, {Op: api.ISplit, X: 0, Y: 3}, {Op: api.IEnd}, {Op: api.IMatch}}, Starts: []int{1}}
	v := made(t, p)
	feed(v, "a")
	if m := v.Machine(); !same(m, api.Machine{Place: 1, Lists: []api.List{list(false, caps(), thread(1, -1, 0))}}) {
		t.Error(m)
	}
}

// dice returns numbers that look like any.
type dice uint32

func (d *dice) roll(n int) int {
	*d = *d*1664525 + 1013904223
	return int(uint32(*d)>>8) % n
}

func (d *dice) text() string {
	var s string
	for range d.roll(9) {
		s += []string{"a", "b", "c", "ab", "é", "\n", "\xff", "\xe2\x82"}[d.roll(8)]
	}
	return s
}

func (d *dice) pattern(depth int) string {
	kind := d.roll(8)
	if depth == 0 {
		kind = d.roll(4)
	}
	switch kind {
	case 0, 1:
		return []string{"a", "b", "c", "é"}[d.roll(4)]
	case 2:
		return []string{".", "[ab]", "[^a]", "[b-é]"}[d.roll(4)]
	case 3:
		return []string{"^", "$", "(?:)", "a"}[d.roll(4)]
	case 4:
		return "(?:" + d.pattern(depth-1) + ")(?:" + d.pattern(depth-1) + ")"
	case 5:
		return "(?:" + d.pattern(depth-1) + "|" + d.pattern(depth-1) + ")"
	case 6:
		return "(?:" + d.pattern(depth-1) + ")" + []string{"*", "+", "?", "{2}", "{1,3}"}[d.roll(5)] + []string{"", "?"}[d.roll(2)]
	}
	return "(" + d.pattern(depth-1) + ")"
}

// rules makes a program of some patterns that are right.
func (d *dice) rules() api.Prog {
	for {
		var l [][]api.Node
		for range 1 + d.roll(3) {
			nodes, e, _ := syntax.Parse(d.pattern(4))
			if e == api.OK {
				l = append(l, nodes)
			}
		}
		p, e, _ := prog.Compile(l...)
		if e == api.OK {
			return p
		}
	}
}

// program makes any program that is right, with one rule.
func (d *dice) program() api.Prog {
	n := 1 + d.roll(12)
	var code []api.Ins
	for range n {
		x := api.Ins{Op: 1 + d.roll(7)}
		switch x.Op {
		case api.ISplit:
			x.X, x.Y = d.roll(n+1), d.roll(n+1)
		case api.IJump:
			x.X = d.roll(n + 1)
		case api.ISave:
			x.X = d.roll(10)
		case api.IClass:
			x.Ranges = class.Make(api.Range{Lo: 'a', Hi: 'a' + rune(d.roll(3))})
		}
		code = append(code, x)
	}
	return api.Prog{Code: append(code, api.Ins{Op: api.IMatch}), Starts: []int{d.roll(n)}}
}

// follow holds a machine against the search, after each rune, and goes on with a machine that was made from its state.
func follow(t *testing.T, p api.Prog, text string) {
	t.Helper()
	v := made(t, p)
	at := 0
	for _, g := range append(utf.All([]byte(text)), api.Got{}) {
		m := v.Machine()
		if m.Place != at || !vm.Well(p, m) {
			t.Fatalf("%v after %q: %v", p, text[:at], m)
		}
		other, e := vm.Of(p, m)
		if e != api.OK {
			t.Fatalf("%v after %q: %d", p, text[:at], e)
		}
		ends := v.Ends()
		if !sameLists(other.Ends(), ends) {
			t.Fatalf("%v after %q: another machine ends otherwise", p, text[:at])
		}
		for rule, l := range ends {
			want, ok := back.Find(p, rule, text[:at])
			if !ok {
				want = caps()
			}
			if l.Done != ok || l.Best != want || len(l.Threads) != 0 {
				t.Fatalf("%v, rule %d after %q: %v, not %v %v", p, rule, text[:at], l, want, ok)
			}
		}
		v.Step(g.R, g.N)
		other.Step(g.R, g.N)
		if !same(v.Machine(), other.Machine()) {
			t.Fatalf("%v after %q: another machine goes on otherwise", p, text[:at])
		}
		v = other
		at += g.N
	}
}

func TestLikeTheSearch(t *testing.T) {
	d := dice(1)
	for range 1500 {
		p := d.rules()
		for range 4 {
			follow(t, p, d.text())
		}
	}
	for range 3000 {
		p := d.program()
		for range 3 {
			follow(t, p, d.text())
		}
	}
}

func TestLongText(t *testing.T) {
	p := compiled(t, "(?:(?:a*)*)*(?:(?:a|a)*)*(?:a?){30}b", "c")
	v := made(t, p)
	feed(v, strings.Repeat("a", 20000))
	m := v.Machine()
	if m.Place != 20000 || len(m.Lists[0].Threads) > len(p.Code) {
		t.Error(m.Place, len(m.Lists[0].Threads))
	}
	if l := v.Ends(); l[0].Done || l[1].Done {
		t.Error(l)
	}
	feed(v, "b")
	if l := v.Ends(); !l[0].Done || l[0].Best != caps(0, 20001) {
		t.Error(l)
	}
}

func TestMemory(t *testing.T) {
	p := compiled(t, "a+b", "ab|a")
	v := made(t, p)
	feed(v, "a")
	m := v.Machine()
	w, _ := vm.Of(p, m)
	for i := range p.Code {
		for j := range p.Code[i].Ranges {
			p.Code[i].Ranges[j] = api.Range{Lo: 'x', Hi: 'x'}
		}
		p.Code[i] = api.Ins{}
	}
	p.Starts[0] = 99
	for i := range m.Lists {
		l := m.Lists[i].Threads
		for j := range l[:cap(l)] {
			l[:cap(l)][j] = thread(99)
		}
		m.Lists[i] = api.List{}
	}
	for _, v := range []*vm.VM{v, w} {
		feed(v, "b")
		ends := v.Ends()
		if ends[0].Best != caps(0, 2) || ends[1].Best != caps(0, 2) {
			t.Error("memory is shared", ends)
		}
		ends[0] = api.List{}
		if v.Ends()[0].Best != caps(0, 2) {
			t.Error("memory is shared")
		}
	}
}
