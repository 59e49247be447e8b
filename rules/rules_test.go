package rules_test

import (
	"bytes"
	"math"
	"slices"
	"strings"
	"testing"

	"spoor/api"
	"spoor/prog"
	"spoor/rules"
	"spoor/simple"
	"spoor/sum"
	"spoor/syntax"
	"spoor/wire"
)

// set makes a rule set of names and texts by turns; a last one alone is the continuation pattern.
func set(l ...string) api.Set {
	var s api.Set
	for ; len(l) > 1; l = l[2:] {
		s.Rules = append(s.Rules, api.Pattern{Name: l[0], Text: l[1]})
	}
	if len(l) == 1 {
		s.Cont = l[0]
	}
	return s
}

func loaded(t *testing.T, l ...string) *rules.Rules {
	t.Helper()
	r, e, n := rules.Load(set(l...))
	if e != api.OK || n != 0 || r == nil {
		t.Fatalf("Load(%q): %d at %d", l, e, n)
	}
	return r
}

func same(a, b api.Set) bool {
	return slices.Equal(a.Rules, b.Rules) && a.Cont == b.Cont
}

func sameProg(a, b api.Prog) bool {
	return slices.Equal(a.Starts, b.Starts) && slices.EqualFunc(a.Code, b.Code, func(x, y api.Ins) bool {
		return x.Op == y.Op && x.X == y.X && x.Y == y.Y && slices.Equal(x.Ranges, y.Ranges)
	})
}

// compiled is what a rule set's program must be.
func compiled(t *testing.T, l ...string) api.Prog {
	t.Helper()
	var all [][]api.Node
	for _, s := range l {
		nodes, _, _ := syntax.Parse(s)
		all = append(all, simple.Make(nodes))
	}
	p, e, _ := prog.Compile(all...)
	if e != api.OK {
		t.Fatal(e)
	}
	return p
}

func TestExample(t *testing.T) {
	r := loaded(t, "a", "x+", "b", "y|z", "^ ")
	if r.Count() != 2 || r.Index("b") != 1 || r.Index("a") != 0 || r.Name(2) != "" || r.Name(0) != "a" || r.Name(1) != "b" {
		t.Error(r)
	}
	if !same(r.Set(), set("a", "x+", "b", "y|z", "^ ")) {
		t.Error(r.Set())
	}
	if p := r.Prog(); !sameProg(p, compiled(t, "x+", "y|z")) {
		t.Error(p)
	}
	if p, ok := r.Cont(); !ok || !sameProg(p, compiled(t, "^ ")) {
		t.Error(p, ok)
	}
	for _, i := range []int{-1, 2, math.MinInt, math.MaxInt} {
		if r.Name(i) != "" {
			t.Error(i)
		}
	}
	for _, s := range []string{"", "c", "A", "ab", "x+"} {
		if r.Index(s) != -1 {
			t.Error(s)
		}
	}
}

func TestSmallSets(t *testing.T) {
	r := loaded(t)
	if r.Count() != 0 || r.Name(0) != "" || r.Index("") != -1 || !same(r.Set(), api.Set{}) || len(r.Prog().Code) != 0 || len(r.Prog().Starts) != 0 {
		t.Error(r)
	}
	if p, ok := r.Cont(); ok || len(p.Code) != 0 || len(p.Starts) != 0 {
		t.Error(p, ok)
	}
	r = loaded(t, "^ ")
	if p, ok := r.Cont(); !ok || len(p.Starts) != 1 || r.Count() != 0 {
		t.Error(p, ok)
	}
	r = loaded(t, "a", "")
	if p := r.Prog(); len(p.Starts) != 1 || len(p.Code) != 3 {
		t.Error(p)
	}
	if _, ok := r.Cont(); ok {
		t.Error("a continuation pattern")
	}
}

func TestProgramsAreSimplified(t *testing.T) {
	r := loaded(t, "a", "(?:a|b)|c", "(?:x*)+")
	if p := r.Prog(); len(p.Code) != 4 || p.Code[1].Op != api.IClass {
		t.Error(p)
	}
	if p, _ := r.Cont(); len(p.Code) != 6 {
		t.Error(p)
	}
	// Too big as it stands, and not when it is simpler.
	if _, e, n := rules.Load(set("a", "(?:(?:a{30}){30}){0}")); e != api.OK {
		t.Error(e, n)
	}
}

func TestLoadErrors(t *testing.T) {
	long := strings.Repeat("n", api.MaxName)
	nine := []string{"1", "a", "2", "a", "3", "a", "4", "a", "5", "a", "6", "a", "7", "a", "8", "a", "9", "a"}
	for i, c := range []struct {
		l []string
		e api.Errno
		n int
	}{
		{nine, api.ErrMany, 8}, {append(slices.Clone(nine), "(*"), api.ErrMany, 8}, {append([]string{"", "*"}, nine...), api.ErrMany, 8},
		{[]string{"", "x"}, api.ErrPath, 0}, {[]string{"a b", "x"}, api.ErrPath, 0}, {[]string{"a", "x", long + "n", "y"}, api.ErrPath, 1}, {[]string{"a", "x", "é", "y"}, api.ErrPath, 1}, {[]string{"a\x00", "x"}, api.ErrPath, 0},
		{[]string{"", "("}, api.ErrPath, 0}, {[]string{"a/b", "("}, api.ErrPath, 0}, {[]string{"a:", "x"}, api.ErrPath, 0}, {[]string{"\"", "x"}, api.ErrPath, 0},
		{[]string{"a", "x", "a", "y"}, api.ErrTaken, 1}, {[]string{"a", "x", "b", "x", "a", "("}, api.ErrTaken, 2}, {[]string{"a", "(", "a", "x"}, api.ErrForm, 0},
		{[]string{"a", "x", "b", "("}, api.ErrForm, 1}, {[]string{"a", "x{31}"}, api.ErrLong, 0}, {[]string{"a", strings.Repeat("x", 121)}, api.ErrLong, 0}, {[]string{"a", strings.Repeat("(?:", 21)}, api.ErrDeep, 0}, {[]string{"a", "()()()()()"}, api.ErrMany, 0},
		{[]string{"a", "x", "*"}, api.ErrForm, 1}, {[]string{"*"}, api.ErrForm, 0}, {[]string{"a", "x", "b", "y", "()()()()()"}, api.ErrMany, 2}, {[]string{"a", "(", "*"}, api.ErrForm, 0}, {[]string{"a", "x", "a b", "x", "*"}, api.ErrPath, 1},
		{[]string{"a", "(?:ab{30}){30}"}, api.ErrBig, 0}, {[]string{"a", "x", "b", "(?:ab{30}){30}", "c", "y", "^ "}, api.ErrBig, 1}, {[]string{"a", "(?:ab{30}){30}", "*"}, api.ErrForm, 1}, {[]string{"a", "(?:ab{30}){30}", "b", "("}, api.ErrForm, 1},
		{[]string{"a", "x", "(?:ab{30}){30}"}, api.ErrBig, 1}, {[]string{"(?:ab{30}){30}"}, api.ErrBig, 0}, {[]string{"a", "(?:ab{30}){30}", "b", "y", "(?:ab{30}){30}"}, api.ErrBig, 0},
	} {
		if r, e, n := rules.Load(set(c.l...)); r != nil || e != c.e || n != c.n {
			t.Errorf("case %d: %d at %d, not %d at %d", i, e, n, c.e, c.n)
		}
	}
}

func TestNames(t *testing.T) {
	for c := range 256 {
		ok := c >= 'a' && c <= 'z' || c >= 'A' && c <= 'Z' || c >= '0' && c <= '9' || c == '-' || c == '_' || c == '.'
		for _, name := range []string{string([]byte{byte(c)}), string([]byte{'a', byte(c), 'b'}), string([]byte{'a', byte(c)})} {
			_, e, _ := rules.Load(set(name, "x"))
			if ok != (e == api.OK) || !ok && e != api.ErrPath {
				t.Errorf("%q: %d", name, e)
			}
		}
	}
	loaded(t, strings.Repeat("n", api.MaxName), "x")
	loaded(t, "1", "a", "2", "a", "3", "a", "4", "a", "5", "a", "6", "a", "7", "a", "8", "a")
	r := loaded(t, "z", "1", "b", "2", "Z", "3", "a", "4")
	for i, name := range []string{"z", "b", "Z", "a"} {
		if r.Index(name) != i || r.Name(i) != name {
			t.Error(name, r.Index(name))
		}
	}
}

func TestPut(t *testing.T) {
	b := append(make([]byte, 0, 100), 'q')
	got := rules.Put(b, set("a", "x+", "bc", "", "^ "))
	if string(got) != "q\x01\x02"+"\x01\x01a\x01\x02x+"+"\x01\x02bc\x00"+"\x01\x02^ " {
		t.Errorf("%x", got)
	}
	if !bytes.Equal(b[:100][1:], make([]byte, 99)) {
		t.Error("the room behind the argument was written")
	}
	if got := rules.Put(nil, api.Set{}); string(got) != "\x00\x00" {
		t.Errorf("%x", got)
	}
}

func TestGet(t *testing.T) {
	for _, s := range []api.Set{
		{}, set("^ "), set("a", "x+", "bc", "", "^ "), set(strings.Repeat("n", 32), strings.Repeat("x", 120), strings.Repeat("y", 120)), set("", "*", "(not even right"),
		set("1", "a", "2", "a", "3", "a", "4", "a", "5", "a", "6", "a", "7", "a", "8", "a"),
	} {
		b := rules.Put(nil, s)
		r := wire.Read(append(slices.Clip(b), "rest"...))
		if got := rules.Get(r); !same(got, s) || r.At() != len(b) || r.Err() != api.OK {
			t.Errorf("%v: %v, %d", s, got, r.Err())
		}
		for k := range b {
			r := wire.Read(b[:k])
			if rules.Get(r); r.Err() != api.ErrShort {
				t.Errorf("%v, %d bytes: %d", s, k, r.Err())
			}
		}
	}
	for i, s := range []api.Set{
		set(strings.Repeat("n", 33), "x"), set("a", strings.Repeat("x", 121)), set("a", "x", strings.Repeat("y", 121)), set("1", "a", "2", "a", "3", "a", "4", "a", "5", "a", "6", "a", "7", "a", "8", "a", "9", "a"),
	} {
		r := wire.Read(rules.Put(nil, s))
		if rules.Get(r); r.Err() != api.ErrLong {
			t.Errorf("case %d: %d", i, r.Err())
		}
	}
}

func TestHash(t *testing.T) {
	seen := map[int]int{}
	for i, l := range [][]string{{}, {"^ "}, {"a", "x"}, {"a", "x", "^ "}, {"b", "x"}, {"a", "y"}, {"a", "x", "b", "x"}, {"b", "x", "a", "x"}, {"a", "(?:x)"}} {
		r := loaded(t, l...)
		b := rules.Put(nil, set(l...))
		if want := int(sum.Of(b))*65536 + int(sum.On(1, b))%65536; r.Hash() != want {
			t.Errorf("%q: %x, not %x", l, r.Hash(), want)
		}
		if other, there := seen[r.Hash()]; there {
			t.Error(i, other)
		}
		seen[r.Hash()] = i
	}
}

func TestMemory(t *testing.T) {
	s := set("a", "x", "b", "[c-d]", "^ ")
	r, _, _ := rules.Load(s)
	s.Rules[0] = api.Pattern{Name: "q", Text: "q"}
	got := r.Set()
	for i := range got.Rules[:cap(got.Rules)] {
		got.Rules[:cap(got.Rules)][i] = api.Pattern{}
	}
	p, q := r.Prog(), r.Prog()
	cont, _ := r.Cont()
	for _, p := range []api.Prog{p, cont} {
		for i := range p.Code {
			for j := range p.Code[i].Ranges {
				p.Code[i].Ranges[j] = api.Range{}
			}
			p.Code[i].Op = 0
		}
		p.Starts[0] = 99
	}
	want := loaded(t, "a", "x", "b", "[c-d]", "^ ")
	cont, _ = r.Cont()
	wantCont, _ := want.Cont()
	if !same(r.Set(), want.Set()) || r.Name(0) != "a" || r.Index("a") != 0 || !sameProg(r.Prog(), want.Prog()) || !sameProg(q, want.Prog()) || !sameProg(cont, wantCont) || r.Hash() != want.Hash() {
		t.Error("memory is shared")
	}
}
