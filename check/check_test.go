package check_test

import (
	"math"
	"slices"
	"strconv"
	"testing"

	"spoor/api"
	"spoor/check"
	"spoor/prog"
	"spoor/syntax"
)

func compiled(t *testing.T, l ...string) api.Prog {
	t.Helper()
	var rules [][]api.Node
	for _, s := range l {
		nodes, e, at := syntax.Parse(s)
		if e != api.OK {
			t.Fatalf("Parse(%q): %d at %d", s, e, at)
		}
		rules = append(rules, nodes)
	}
	p, e, n := prog.Compile(rules...)
	if e != api.OK {
		t.Fatalf("Compile(%q): %d at %d", l, e, n)
	}
	return p
}

func in(op, x, y int) api.Ins {
	return api.Ins{Op: op, X: x, Y: y}
}

// one makes a program of one rule, which begins at 0.
func one(l ...api.Ins) api.Prog {
	return api.Prog{Code: l, Starts: []int{0}}
}

var a = []api.Range{{Lo: 'a', Hi: 'a'}}

func TestRight(t *testing.T) {
	match, class := in(api.IMatch, 0, 0), api.Ins{Op: api.IClass, Ranges: a}
	full := make([]api.Ins, api.MaxProg)
	for i := range full {
		full[i] = in(api.IJump, i, 0)
	}
	for i, p := range []api.Prog{
		{}, {Code: []api.Ins{}, Starts: []int{}}, one(match), one(class, match), one(in(api.IJump, 0, 0)), one(in(api.ISplit, 0, 0)), one(in(api.ISplit, 1, 0), match),
		one(in(api.ISave, 0, 0), in(api.ISave, 9, 0), match), one(in(api.IBegin, 0, 0), in(api.IEnd, 0, 0), match), one(api.Ins{Op: api.IClass}, match), one(full...),
		// Without rules, with instructions that no rule reaches, with rules that begin anywhere.
		{Code: []api.Ins{in(api.IJump, 0, 0)}}, one(match, class, match), one(match, in(api.ISave, 5, 0), in(api.IJump, 1, 0)), {Code: []api.Ins{match, class, in(api.IJump, 0, 0)}, Starts: []int{1}},
		{Code: []api.Ins{in(api.IMatch, 1, 0), match}, Starts: []int{1, 0}}, {Code: []api.Ins{match, in(api.IMatch, 1, 0)}, Starts: []int{0, 1}},
		{Code: []api.Ins{in(api.IJump, 0, 0)}, Starts: make([]int, api.MaxRules)},
		// An unreached match of another rule.
		{Code: []api.Ins{match, in(api.IMatch, 1, 0), in(api.IMatch, 1, 0)}, Starts: []int{0, 2}},
	} {
		if !check.Right(p) {
			t.Errorf("case %d is right", i)
		}
	}
	for i, p := range []api.Prog{
		{Starts: []int{0}}, {Code: []api.Ins{match}, Starts: []int{1}}, {Code: []api.Ins{match}, Starts: []int{-1}}, {Code: []api.Ins{match}, Starts: []int{math.MaxInt}}, {Code: []api.Ins{match}},
		one(append(slices.Clone(full), in(api.IJump, 0, 0))...), {Code: []api.Ins{in(api.IJump, 0, 0)}, Starts: make([]int, api.MaxRules+1)},
		// Ops, and fields that no Op names.
		one(api.Ins{}, match), one(in(8, 0, 0), match), one(in(-1, 0, 0), match), one(in(math.MaxInt, 0, 0), match), one(match, api.Ins{}),
		one(api.Ins{Op: api.IClass, X: 1, Ranges: a}, match), one(api.Ins{Op: api.IClass, Y: 1, Ranges: a}, match), one(api.Ins{Op: api.ISplit, Ranges: a}), one(api.Ins{Op: api.IJump, Ranges: a}), one(in(api.IJump, 0, 1), match),
		one(in(api.ISave, 0, 1), match), one(api.Ins{Op: api.ISave, Ranges: a}, match), one(in(api.IBegin, 1, 0), match), one(in(api.IBegin, 0, 1), match), one(api.Ins{Op: api.IBegin, Ranges: a}, match),
		one(in(api.IEnd, 1, 0), match), one(in(api.IEnd, 0, -1), match), one(api.Ins{Op: api.IEnd, Ranges: a}, match), one(in(api.IMatch, 0, 1)), one(api.Ins{Op: api.IMatch, Ranges: a}),
		// Classes, targets, numbers.
		one(api.Ins{Op: api.IClass, Ranges: []api.Range{{Lo: 'b', Hi: 'a'}}}, match), one(api.Ins{Op: api.IClass, Ranges: []api.Range{a[0], a[0]}}, match), one(api.Ins{Op: api.IClass, Ranges: []api.Range{{Lo: 0, Hi: 0x10FFFF}}}, match),
		one(in(api.ISplit, 1, 0)), one(in(api.ISplit, 0, 1)), one(in(api.ISplit, -1, 0)), one(in(api.ISplit, 0, -1)), one(in(api.IJump, 1, 0)), one(in(api.IJump, -1, 0)), one(in(api.IJump, math.MinInt, 0)),
		one(in(api.ISave, -1, 0), match), one(in(api.ISave, 10, 0), match), one(in(api.IMatch, 1, 0)), one(in(api.IMatch, -1, 0)),
		// Nothing follows.
		one(class), one(match, class), one(in(api.ISave, 0, 0)), one(in(api.IBegin, 0, 0)), one(in(api.IEnd, 0, 0)), one(match, in(api.IEnd, 0, 0)),
		// A match of another rule.
		{Code: []api.Ins{in(api.IMatch, 1, 0), in(api.IMatch, 1, 0)}, Starts: []int{0, 1}}, {Code: []api.Ins{match}, Starts: []int{0, 0}},
		{Code: []api.Ins{in(api.ISplit, 1, 2), match, class, in(api.IMatch, 1, 0)}, Starts: []int{0, 3}}, {Code: []api.Ins{in(api.ISave, 0, 0), in(api.IJump, 3, 0), match, in(api.IMatch, 1, 0)}, Starts: []int{0, 3}},
	} {
		if check.Right(p) {
			t.Errorf("case %d is not right: %v", i, p)
		}
		for rule := range len(p.Starts) + 1 {
			if l := check.Reach(p, rule); len(l) != 0 {
				t.Errorf("case %d reaches %v", i, l)
			}
		}
	}
}

func TestCompiledProgramsAreRight(t *testing.T) {
	for _, l := range [][]string{
		nil, {""}, {"a", "b|c"}, {"(a*)+?|^b$", "[^a]{2,5}", "()|()"}, {"(?:a{30}){13}a{7}"}, {"a", "b", "c", "d", "e", "f", "g", "h"}, {"(?:)*", "((((a))))"},
	} {
		if !check.Right(compiled(t, l...)) {
			t.Errorf("%q", l)
		}
	}
}

func TestReach(t *testing.T) {
	p := compiled(t, "a", "b")
	for rule, want := range [][]int{{0, 1, 2, 3}, {4, 5, 6, 7}} {
		if l := check.Reach(p, rule); !slices.Equal(l, want) {
			t.Error(rule, l)
		}
	}
	for _, rule := range []int{2, -1, math.MinInt, math.MaxInt} {
		if l := check.Reach(p, rule); len(l) != 0 {
			t.Error(rule, l)
		}
	}
	if l := check.Reach(api.Prog{}, 0); len(l) != 0 {
		t.Error(l)
	}
	match := in(api.IMatch, 0, 0)
	for i, c := range []struct {
		p    api.Prog
		want []int
	}{
		{one(match, match, match), []int{0}},
		{one(in(api.IJump, 2, 0), match, match), []int{0, 2}},
		{one(in(api.IJump, 0, 0), match), []int{0}},
		{one(in(api.ISplit, 3, 1), in(api.IJump, 4, 0), match, match, match), []int{0, 1, 3, 4}},
		{one(in(api.ISplit, 0, 0), match), []int{0}},
		{one(in(api.ISplit, 2, 0), match, match), []int{0, 2}},
		{one(in(api.ISave, 1, 0), in(api.IBegin, 0, 0), in(api.IEnd, 0, 0), api.Ins{Op: api.IClass}, match, match), []int{0, 1, 2, 3, 4}},
		{api.Prog{Code: []api.Ins{match, match, in(api.IEnd, 0, 0), in(api.IJump, 1, 0), match}, Starts: []int{2}}, []int{1, 2, 3}},
	} {
		if l := check.Reach(c.p, 0); !slices.Equal(l, c.want) {
			t.Errorf("case %d: %v", i, l)
		}
	}
}

// slow finds what is reached by going through all instructions again and again.
func slow(p api.Prog, rule int) []int {
	in := map[int]int{p.Starts[rule]: 1}
	for before := 0; before != len(in); {
		before = len(in)
		for i, x := range p.Code {
			if in[i] == 0 {
				continue
			}
			switch x.Op {
			case api.ISplit:
				in[x.X], in[x.Y] = 1, 1
			case api.IJump:
				in[x.X] = 1
			case api.IMatch:
			default:
				in[i+1] = 1
			}
		}
	}
	var l []int
	for i := range p.Code {
		if in[i] == 1 {
			l = append(l, i)
		}
	}
	return l
}

func TestReachOfAnyPrograms(t *testing.T) {
	seed := uint32(1)
	roll := func(n int) int {
		seed = seed*1664525 + 1013904223
		return int(seed>>8) % n
	}
	for range 3000 {
		n := 1 + roll(20)
		p := one()
		for range n {
			p.Code = append(p.Code, in([]int{api.IJump, api.ISplit, api.IMatch, api.ISave, api.IClass, api.IBegin}[roll(6)], 0, 0))
			x := &p.Code[len(p.Code)-1]
			if x.Op == api.IJump || x.Op == api.ISplit {
				x.X = roll(n + 1)
			}
			if x.Op == api.ISplit {
				x.Y = roll(n + 1)
			}
		}
		p.Code = append(p.Code, in(api.IMatch, 0, 0))
		p.Starts[0] = roll(n)
		if !check.Right(p) {
			t.Fatal("not right: ", p)
		}
		if got, want := check.Reach(p, 0), slow(p, 0); !slices.Equal(got, want) {
			t.Fatalf("%v: %v, not %v", p, got, want)
		}
	}
}

func TestMemory(t *testing.T) {
	p := compiled(t, "a|b")
	l := check.Reach(p, 0)
	for i := range l[:cap(l)] {
		l[:cap(l)][i] = -1
	}
	if s := len(check.Reach(p, 0)); s != 7 {
		t.Error("a later call sees what was done to a result: " + strconv.Itoa(s))
	}
}
