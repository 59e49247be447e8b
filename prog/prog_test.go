package prog_test

import (
	"slices"
	"strconv"
	"strings"
	"testing"

	"spoor/api"
	"spoor/prog"
	"spoor/syntax"
)

func parsed(t *testing.T, s string) []api.Node {
	t.Helper()
	l, e, at := syntax.Parse(s)
	if e != api.OK {
		t.Fatalf("Parse(%q): %d at %d", s, e, at)
	}
	return l
}

func compiled(t *testing.T, l ...string) api.Prog {
	t.Helper()
	var rules [][]api.Node
	for _, s := range l {
		rules = append(rules, parsed(t, s))
	}
	p, e, n := prog.Compile(rules...)
	if e != api.OK || n != 0 {
		t.Fatalf("Compile(%q): %d at %d", l, e, n)
	}
	return p
}

// show writes code so that every field is seen; of a class, only its first rune.
func show(p api.Prog) string {
	var l []string
	for _, x := range p.Code {
		s := "?"
		switch x.Op {
		case api.IClass:
			s = "none"
			if len(x.Ranges) > 0 {
				s = string(x.Ranges[0].Lo)
			}
			if x.X != 0 || x.Y != 0 {
				s += "?"
			}
		case api.ISplit:
			s = "split " + strconv.Itoa(x.X) + " " + strconv.Itoa(x.Y)
		case api.IJump:
			s = "jump " + strconv.Itoa(x.X)
		case api.ISave:
			s = "save " + strconv.Itoa(x.X)
		case api.IBegin:
			s = "begin"
		case api.IEnd:
			s = "end"
		case api.IMatch:
			s = "match " + strconv.Itoa(x.X)
		}
		if x.Op != api.IClass && len(x.Ranges) > 0 || x.Op != api.ISplit && x.Y != 0 || (x.Op == api.IBegin || x.Op == api.IEnd) && x.X != 0 {
			s += "?"
		}
		l = append(l, s)
	}
	return strings.Join(l, ", ")
}

func TestCode(t *testing.T) {
	for _, c := range []struct{ s, want string }{
		{"a", "save 0, a, save 1, match 0"},
		{"", "save 0, save 1, match 0"},
		{"abc", "save 0, a, b, c, save 1, match 0"},
		{"^a$", "save 0, begin, a, end, save 1, match 0"},
		{"a|b", "save 0, split 2 4, a, jump 5, b, save 1, match 0"},
		{"a|b|c", "save 0, split 2 4, a, jump 8, split 5 7, b, jump 8, c, save 1, match 0"},
		{"ab||", "save 0, split 2 5, a, b, jump 7, split 6 7, jump 7, save 1, match 0"},
		{"a*", "save 0, split 2 4, a, jump 1, save 1, match 0"},
		{"a*?", "save 0, split 4 2, a, jump 1, save 1, match 0"},
		{"a+", "save 0, a, split 3 5, a, jump 2, save 1, match 0"},
		{"a+?", "save 0, a, split 5 3, a, jump 2, save 1, match 0"},
		{"a?", "save 0, split 2 3, a, save 1, match 0"},
		{"a??", "save 0, split 3 2, a, save 1, match 0"},
		{"a{2}", "save 0, a, a, save 1, match 0"},
		{"a{2}?", "save 0, a, a, save 1, match 0"},
		{"a{0}", "save 0, save 1, match 0"},
		{"a{2,}", "save 0, a, a, split 4 6, a, jump 3, save 1, match 0"},
		{"a{1,3}", "save 0, a, split 3 6, a, split 5 6, a, save 1, match 0"},
		{"a{1,3}?", "save 0, a, split 6 3, a, split 6 5, a, save 1, match 0"},
		{"(?:ab){0,2}", "save 0, split 2 7, a, b, split 5 7, a, b, save 1, match 0"},
		{"(a)", "save 0, save 2, a, save 3, save 1, match 0"},
		{"(a(b))|(c)", "save 0, split 2 9, save 2, a, save 4, b, save 5, save 3, jump 12, save 6, c, save 7, save 1, match 0"},
		{"(a){2}", "save 0, save 2, a, save 3, save 2, a, save 3, save 1, match 0"},
		{"(?:)*", "save 0, split 2 3, jump 1, save 1, match 0"},
		{"(?:){5}", "save 0, save 1, match 0"},
		{"(?:){1,3}", "save 0, split 2 3, split 3 3, save 1, match 0"},
		{"(?:a|b)*", "save 0, split 2 7, split 3 5, a, jump 6, b, jump 1, save 1, match 0"},
		{"(?:a*)+", "save 0, split 2 4, a, jump 1, split 5 9, split 6 8, a, jump 5, jump 4, save 1, match 0"},
		{"[^\x00-\U0010FFFF]", "save 0, none, save 1, match 0"},
	} {
		p := compiled(t, c.s)
		if got := show(p); got != c.want {
			t.Errorf("%q: %s", c.s, got)
		}
		if !slices.Equal(p.Starts, []int{0}) {
			t.Errorf("%q: %v", c.s, p.Starts)
		}
	}
}

func TestClasses(t *testing.T) {
	p := compiled(t, "[a-cx]{2}")
	want := []api.Range{{Lo: 'a', Hi: 'c'}, {Lo: 'x', Hi: 'x'}}
	if !slices.Equal(p.Code[1].Ranges, want) || !slices.Equal(p.Code[2].Ranges, want) {
		t.Error(p.Code)
	}
}

func TestRules(t *testing.T) {
	p := compiled(t, "a*?", "b")
	if !slices.Equal(p.Starts, []int{0, 6}) || p.Code[1].X != 4 || p.Code[1].Y != 2 {
		t.Error(p)
	}
	p = compiled(t, "a", "b|c", "", "(d)*")
	if !slices.Equal(p.Starts, []int{0, 4, 11, 14}) {
		t.Error(p.Starts)
	}
	if got := show(p); got != "save 0, a, save 1, match 0, save 0, split 6 8, b, jump 9, c, save 1, match 1, save 0, save 1, match 2, save 0, split 16 20, save 2, d, save 3, jump 15, save 1, match 3" {
		t.Error(got)
	}
	if p = compiled(t); len(p.Code) != 0 || len(p.Starts) != 0 {
		t.Error(p)
	}
	if p = compiled(t, "a", "a", "a", "a", "a", "a", "a", "a"); len(p.Starts) != api.MaxRules {
		t.Error(p.Starts)
	}
}

// TestRulesDoNotAffectOneAnother holds the code of a rule against that of the rule alone.
func TestRulesDoNotAffectOneAnother(t *testing.T) {
	all := []string{"a*?|b{2,4}", "(x(y)?)+", "^$|c{0,3}?", "[a-z]{3,}"}
	p := compiled(t, all...)
	for i, s := range all {
		alone := compiled(t, s)
		for k, x := range alone.Code {
			y := p.Code[p.Starts[i]+k]
			switch x.Op {
			case api.ISplit:
				x.X, x.Y = x.X+p.Starts[i], x.Y+p.Starts[i]
			case api.IJump:
				x.X += p.Starts[i]
			case api.IMatch:
				x.X = i
			}
			if x.Op != y.Op || x.X != y.X || x.Y != y.Y || !slices.Equal(x.Ranges, y.Ranges) {
				t.Errorf("rule %d, instruction %d: %v, not %v", i, k, y, x)
			}
		}
	}
}

func TestErrors(t *testing.T) {
	a, wrong := parsed(t, "a"), []api.Node{{Op: api.NCat, Kids: 2}}
	for i, c := range []struct {
		l [][]api.Node
		e api.Errno
		n int
	}{
		{[][]api.Node{a, nil}, api.ErrArg, 1},
		{[][]api.Node{wrong, a}, api.ErrArg, 0},
		{[][]api.Node{a, a, wrong, nil}, api.ErrArg, 2},
		{[][]api.Node{a, a, a, a, a, a, a, a, a}, api.ErrMany, api.MaxRules},
		{[][]api.Node{a, a, a, a, wrong, a, a, a, a, a, a}, api.ErrMany, api.MaxRules},
		{[][]api.Node{parsed(t, "(?:a{30}){30}")}, api.ErrBig, 0},
		{[][]api.Node{a, parsed(t, "(?:a{30}){30}"), nil}, api.ErrBig, 1},
		{[][]api.Node{a, nil, parsed(t, "(?:a{30}){30}")}, api.ErrArg, 1},
	} {
		if p, e, n := prog.Compile(c.l...); e != c.e || n != c.n || len(p.Code) != 0 || len(p.Starts) != 0 {
			t.Errorf("case %d: %d at %d", i, e, n)
		}
	}
}

func TestLimit(t *testing.T) {
	// 397 instructions of its node, with 3 more.
	full := "(?:a{30}){13}a{7}"
	if p := compiled(t, full); len(p.Code) != api.MaxProg {
		t.Error(len(p.Code))
	}
	if _, e, n := prog.Compile(parsed(t, full+"a")); e != api.ErrBig || n != 0 {
		t.Error(e, n)
	}
	if _, e, n := prog.Compile(parsed(t, full), parsed(t, "")); e != api.ErrBig || n != 1 {
		t.Error(e, n)
	}
	half := "(?:a{30}){6}a{17}"
	if p := compiled(t, half, half); len(p.Code) != api.MaxProg {
		t.Error(len(p.Code))
	}
	if _, e, n := prog.Compile(parsed(t, half), parsed(t, half+"b"), parsed(t, "c")); e != api.ErrBig || n != 1 {
		t.Error(e, n)
	}
	// Every kind of node counts.
	for _, s := range []string{"a|", "a*", "a?", "(a)", "^", "$", "a{2,}", "a{0,2}", "(?:){0,2}", "(?:)*"} {
		one := len(compiled(t, s).Code) - 3
		left := api.MaxProg - 3 - one
		fill := strings.Repeat("(?:a{30})", left/30) + "a{" + strconv.Itoa(left%30) + "}"
		if len(fill)+len(s)+4 > api.MaxPattern {
			fill = "(?:a{30}){" + strconv.Itoa(left/30) + "}a{" + strconv.Itoa(left%30) + "}"
		}
		if p := compiled(t, "(?:"+s+")"+fill); len(p.Code) != api.MaxProg {
			t.Errorf("%q: %d", s, len(p.Code))
		}
		if _, e, _ := prog.Compile(parsed(t, "(?:"+s+")"+fill+"a")); e != api.ErrBig {
			t.Errorf("%q and one more: %d", s, e)
		}
	}
}

// TestRepeatedRepetitions: what would take for ever to write out is refused at once, or is nothing.
func TestRepeatedRepetitions(t *testing.T) {
	var counts, nothing []api.Node
	for range 2 * api.MaxPattern {
		counts = append(counts, api.Node{Op: api.NRepeat, Min: 30, Max: 30, Kids: 1})
	}
	nothing = append(slices.Clone(counts), api.Node{Op: api.NEmpty})
	if p, e, _ := prog.Compile(nothing); e != api.OK || show(p) != "save 0, save 1, match 0" {
		t.Error(e, show(p))
	}
	counts = append(counts, api.Node{Op: api.NBegin})
	if _, e, n := prog.Compile(parsed(t, "a"), counts); e != api.ErrBig || n != 1 {
		t.Error(e, n)
	}
}

func TestMemory(t *testing.T) {
	l := parsed(t, "[a-c]{3}|[a-c]*")
	rules := [][]api.Node{l, l}
	p, _, _ := prog.Compile(rules...)
	want := show(p)
	for i := range p.Code {
		g := p.Code[i].Ranges
		for j := range g[:cap(g)] {
			g[:cap(g)][j] = api.Range{Lo: rune(i), Hi: rune(i)}
		}
	}
	for i, x := range p.Code {
		if x.Op == api.IClass && x.Ranges[0].Lo != rune(i) {
			t.Error("two lists share memory")
		}
	}
	if again, _, _ := prog.Compile(rules...); show(again) != want {
		t.Error("the argument was changed")
	}
}
