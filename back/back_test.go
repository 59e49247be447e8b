package back_test

import (
	"math"
	"regexp"
	"slices"
	"strings"
	"testing"
	"unicode/utf8"

	"spoor/api"
	"spoor/back"
	"spoor/class"
	"spoor/prog"
	"spoor/simple"
	"spoor/syntax"
)

func parsed(t *testing.T, s string) []api.Node {
	t.Helper()
	l, e, at := syntax.Parse(s)
	if e != api.OK {
		t.Fatalf("Parse(%q): %d at %d", s, e, at)
	}
	return l
}

func compiled(t *testing.T, l ...string) api.Prog {
	t.Helper()
	var rules [][]api.Node
	for _, s := range l {
		rules = append(rules, parsed(t, s))
	}
	p, e, n := prog.Compile(rules...)
	if e != api.OK {
		t.Fatalf("Compile(%q): %d at %d", l, e, n)
	}
	return p
}

// caps fills up with -1.
func caps(l ...int) api.Caps {
	var c api.Caps
	for i := range c {
		c[i] = -1
		if i < len(l) {
			c[i] = l[i]
		}
	}
	return c
}

func TestFind(t *testing.T) {
	for _, c := range []struct {
		s, text string
		want    []int
	}{
		{"a+", "baab", []int{1, 3}}, {"a+?", "baab", []int{1, 2}}, {"a|ab", "ab", []int{0, 1}}, {"ab|a", "ab", []int{0, 2}}, {"x", "ab", nil},
		{"(a)(b)?", "ac", []int{0, 1, 0, 1, -1, -1}}, {"^b", "ab", nil}, {"^b", "ba", []int{0, 1}}, {"b$", "bab", []int{2, 3}}, {"(?:)", "", []int{0, 0}}, {"(?:)", "abc", []int{0, 0}},
		{"é", "aé", []int{1, 3}}, {".", "\xff", []int{0, 1}}, {".", "\n", nil}, {"[^a]", "\xff", []int{0, 1}}, {"\uFFFD", "a\xff", []int{1, 2}}, {"\uFFFD", "a\uFFFD", []int{1, 4}},
		{"..", "\xe2\x82", []int{0, 2}}, {"€", "\xe2\x82€", []int{2, 5}}, {"$", "ab", []int{2, 2}}, {"^$", "", []int{0, 0}}, {"^$", "a", nil}, {"$^", "", []int{0, 0}}, {"a$b", "ab", nil},
		{"a*", "baa", []int{0, 0}}, {"a*?b", "aab", []int{0, 3}}, {"(a*)(a*)", "aa", []int{0, 2, 0, 2, 2, 2}}, {"(a*?)(a*)", "aa", []int{0, 2, 0, 0, 0, 2}}, {"(a|b)*", "abx", []int{0, 2, 1, 2}},
		{"(a|(b))*", "ba", []int{0, 2, 1, 2, 0, 1}}, {"a{2,3}", "aaaa", []int{0, 3}}, {"a{2,3}?", "aaaa", []int{0, 2}}, {"a{2}", "a", nil}, {"a??", "a", []int{0, 0}}, {"a?", "a", []int{0, 1}},
		{"(?:)*", "a", []int{0, 0}}, {"(?:a*)*b", "aab", []int{0, 3}}, {"(?:a*)+$", "aab", []int{3, 3}}, {"((($)|.)+)", "a", []int{0, 1, 0, 1, 0, 1, -1, -1}}, {"(|a)*", "aa", []int{0, 2, 1, 2}}, {"(a|)*", "aa", []int{0, 2, 1, 2}},
		{"literal", "a literal and a literal", []int{2, 9}}, {"[^\x00-\U0010FFFF]", "a", nil}, {"x*$", "xxaxx", []int{3, 5}}, {"(((a)))(b)", "ab", []int{0, 2, 0, 1, 0, 1, 0, 1, 1, 2}},
		{"\n", "a\nb", []int{1, 2}}, {"a.b", "a\nb", nil}, {"\\d+\\s\\w", "x12 _", []int{1, 5}},
	} {
		got, ok := back.Find(compiled(t, c.s), 0, c.text)
		want := api.Caps{}
		if c.want != nil {
			want = caps(c.want...)
		}
		if ok != (c.want != nil) || got != want {
			t.Errorf("%q in %q: %v %v", c.s, c.text, got, ok)
		}
	}
}

func TestRuleNumbers(t *testing.T) {
	p := compiled(t, "a", "b", "c+")
	for rule, want := range []api.Caps{caps(0, 1), caps(1, 2), caps(2, 4)} {
		if got, ok := back.Find(p, rule, "abcc"); got != want || !ok {
			t.Error(rule, got, ok)
		}
	}
	for _, rule := range []int{3, -1, math.MinInt, math.MaxInt} {
		if got, ok := back.Find(p, rule, "abcc"); got != (api.Caps{}) || ok {
			t.Error(rule, got, ok)
		}
	}
	if got, ok := back.Find(api.Prog{}, 0, ""); got != (api.Caps{}) || ok {
		t.Error(got, ok)
	}
}

func TestProgramsThatAreNotCompiled(t *testing.T) {
	match := api.Ins{Op: api.IMatch}
	one := func(l ...api.Ins) api.Prog { return api.Prog{Code: l, Starts: []int{0}} }
	for i, c := range []struct {
		p    api.Prog
		text string
		want []int
	}{
		// No instruction saves a position: nothing is known but that there is a match.
		{one(match), "a", []int{}},
		{one(api.Ins{Op: api.ISave, X: 9}, match), "a", []int{-1, -1, -1, -1, -1, -1, -1, -1, -1, 0}},
		{one(api.Ins{Op: api.IJump, X: 0}), "a", nil},
		{one(api.Ins{Op: api.ISplit}), "a", nil},
		{one(api.Ins{Op: api.ISplit, X: 0, Y: 1}, match), "a", []int{}},
		// What the first way saved is forgotten on the second one.
		{one(api.Ins{Op: api.ISplit, X: 1, Y: 3}, api.Ins{Op: api.ISave, X: 0}, api.Ins{Op: api.IJump, X: 0}, match), "a", []int{}},
	} {
		got, ok := back.Find(c.p, 0, c.text)
		want := api.Caps{}
		if c.want != nil {
			want = caps(c.want...)
		}
		if ok != (c.want != nil) || got != want {
			t.Errorf("case %d: %v %v", i, got, ok)
		}
	}
	for i, p := range []api.Prog{one(), one(api.Ins{}), one(api.Ins{Op: api.ISave}), one(api.Ins{Op: api.IJump, X: 7}), one(api.Ins{Op: api.IMatch, X: 1}), {Code: []api.Ins{match}, Starts: []int{5}}, {Code: []api.Ins{match, {Op: 99}}, Starts: []int{0}}} {
		if got, ok := back.Find(p, 0, "a"); got != (api.Caps{}) || ok {
			t.Errorf("case %d: %v %v", i, got, ok)
		}
	}
}

// dice returns numbers that look like any.
type dice uint32

func (d *dice) roll(n int) int {
	*d = *d*1664525 + 1013904223
	return int(uint32(*d)>>8) % n
}

func (d *dice) text() string {
	var s string
	for range d.roll(7) {
		s += []string{"a", "b", "c", "ab", "é", "\n", "\xff", "\xe2\x82"}[d.roll(8)]
	}
	return s
}

// pattern makes any pattern; repeated tells whether what can match nothing is repeated, too.
func (d *dice) pattern(depth int, repeated bool) (string, bool) {
	kind := d.roll(9)
	if depth == 0 {
		kind = d.roll(4)
	}
	switch kind {
	case 0, 1:
		return []string{"a", "b", "c", "é"}[d.roll(4)], false
	case 2:
		return []string{".", "[ab]", "[^a]", "[b-é]"}[d.roll(4)], false
	case 3:
		return []string{"^", "$", "(?:)", "a"}[d.roll(4)], true
	case 4, 5:
		a, x := d.pattern(depth-1, repeated)
		b, y := d.pattern(depth-1, repeated)
		return "(?:" + a + ")(?:" + b + ")", x && y
	case 6:
		a, x := d.pattern(depth-1, repeated)
		b, y := d.pattern(depth-1, repeated)
		return "(?:" + a + "|" + b + ")", x || y
	case 7:
		a, x := d.pattern(depth-1, repeated)
		if x && !repeated {
			return a, x
		}
		n := d.roll(5)
		more := []string{"*", "+", "?", "{2}", "{1,3}"}[n] + []string{"", "?"}[d.roll(2)]
		return "(?:" + a + ")" + more, x || n == 0 || n == 2
	}
	a, x := d.pattern(depth-1, repeated)
	return "(" + a + ")", x
}

// TestLikeGo holds the search against Go's, which finds the same where nothing is repeated that can match nothing.
func TestLikeGo(t *testing.T) {
	d := dice(1)
	found := 0
	for range 4000 {
		s, _ := d.pattern(3, false)
		nodes, e, _ := syntax.Parse(s)
		if e != api.OK {
			continue
		}
		p, e, _ := prog.Compile(nodes)
		if e != api.OK {
			continue
		}
		g := regexp.MustCompile(s)
		for range 8 {
			text := d.text()
			got, ok := back.Find(p, 0, text)
			want := g.FindStringSubmatchIndex(text)
			if ok != (want != nil) || ok && got != caps(want...) {
				t.Fatalf("%q in %q: %v %v, not %v", s, text, got, ok, want)
			}
			if ok {
				found++
			}
		}
	}
	if found < 5000 {
		t.Error("too little was found:", found)
	}
}

// slow searches as P14.1 says it, by calls within calls.
func slow(p api.Prog, rule int, text string) (api.Caps, bool) {
	for at := 0; at <= len(text); {
		done := map[[2]int]bool{}
		var run func(pc, at int, c api.Caps) (api.Caps, bool)
		run = func(pc, at int, c api.Caps) (api.Caps, bool) {
			if done[[2]int{pc, at}] {
				return api.Caps{}, false
			}
			done[[2]int{pc, at}] = true
			x := p.Code[pc]
			r, n := utf8.DecodeRuneInString(text[at:])
			switch {
			case x.Op == api.ISplit:
				if got, ok := run(x.X, at, c); ok {
					return got, true
				}
				return run(x.Y, at, c)
			case x.Op == api.IJump:
				return run(x.X, at, c)
			case x.Op == api.ISave:
				c[x.X] = at
				return run(pc+1, at, c)
			case x.Op == api.IBegin && at == 0, x.Op == api.IEnd && at == len(text):
				return run(pc+1, at, c)
			case x.Op == api.IClass && n > 0 && class.Has(x.Ranges, r):
				return run(pc+1, at+n, c)
			case x.Op == api.IMatch:
				return c, true
			}
			return api.Caps{}, false
		}
		if got, ok := run(p.Starts[rule], at, caps()); ok {
			return got, true
		}
		_, n := utf8.DecodeRuneInString(text[at:])
		at += max(n, 1)
	}
	return api.Caps{}, false
}

// TestAnyPatterns holds the search against the slow one, and against the search with simpler patterns (P11.2).
func TestAnyPatterns(t *testing.T) {
	d := dice(2)
	for range 4000 {
		s, _ := d.pattern(4, true)
		nodes, e, _ := syntax.Parse(s)
		if e != api.OK {
			continue
		}
		p, e, _ := prog.Compile(nodes)
		if e != api.OK {
			continue
		}
		q, e, _ := prog.Compile(simple.Make(nodes))
		if e != api.OK {
			t.Fatalf("%q: its simpler form is too big", s)
		}
		for range 8 {
			text := d.text()
			got, ok := back.Find(p, 0, text)
			if want, there := slow(p, 0, text); got != want || ok != there {
				t.Fatalf("%q in %q: %v %v, not %v %v", s, text, got, ok, want, there)
			}
			if want, there := back.Find(q, 0, text); got != want || ok != there {
				t.Fatalf("%q in %q: %v %v, but %q finds %v %v", s, text, got, ok, syntax.Print(simple.Make(nodes)), want, there)
			}
			if ok && (got[0] < 0 || got[0] > got[1] || got[1] > len(text)) {
				t.Fatalf("%q in %q: %v", s, text, got)
			}
		}
	}
}

func TestAnyPrograms(t *testing.T) {
	d := dice(3)
	for range 5000 {
		n := 1 + d.roll(12)
		var code []api.Ins
		for range n {
			x := api.Ins{Op: 1 + d.roll(7)}
			switch x.Op {
			case api.ISplit:
				x.X, x.Y = d.roll(n+1), d.roll(n+1)
			case api.IJump:
				x.X = d.roll(n + 1)
			case api.ISave:
				x.X = d.roll(10)
			case api.IClass:
				x.Ranges = class.Make(api.Range{Lo: 'a', Hi: 'a' + rune(d.roll(3))})
			}
			code = append(code, x)
		}
		p := api.Prog{Code: append(code, api.Ins{Op: api.IMatch}), Starts: []int{d.roll(n)}}
		for range 4 {
			text := d.text()
			got, ok := back.Find(p, 0, text)
			if want, there := slow(p, 0, text); got != want || ok != there {
				t.Fatalf("%v in %q: %v %v, not %v %v", p, text, got, ok, want, there)
			}
		}
	}
}

func TestLiterals(t *testing.T) {
	d := dice(4)
	for range 500 {
		text, part := d.text()+d.text(), ""
		for range 1 + d.roll(2) {
			part += []string{"a", "b", "ab", "é"}[d.roll(4)]
		}
		at := strings.Index(text, part)
		got, ok := back.Find(compiled(t, part), 0, text)
		if ok != (at >= 0) || ok && got != caps(at, at+len(part)) {
			t.Errorf("%q in %q: %v %v", part, text, got, ok)
		}
	}
}

// TestEachPairOnce: a search that tried everything again and again would not end.
func TestEachPairOnce(t *testing.T) {
	p := compiled(t, "(?:(?:a*)*)*(?:(?:a|a)*)*(?:a?){30}b")
	if got, ok := back.Find(p, 0, strings.Repeat("a", 500)); ok {
		t.Error(got)
	}
	long := strings.Repeat("ab", 50000)
	if got, ok := back.Find(compiled(t, "x|bb"), 0, long); ok {
		t.Error(got)
	}
	if got, ok := back.Find(compiled(t, "(?:a|b)*x"), 0, long); ok {
		t.Error(got)
	}
	if got, ok := back.Find(compiled(t, "^(?:ab)*$"), 0, long); got != caps(0, 100000) || !ok {
		t.Error(got, ok)
	}
}

func TestArgumentsStay(t *testing.T) {
	p := compiled(t, "a|b", "c")
	before := compiled(t, "a|b", "c")
	back.Find(p, 0, "xb")
	back.Find(p, 1, "xb")
	same := slices.EqualFunc(p.Code, before.Code, func(a, b api.Ins) bool {
		return a.Op == b.Op && a.X == b.X && a.Y == b.Y && slices.Equal(a.Ranges, b.Ranges)
	})
	if !same || !slices.Equal(p.Starts, before.Starts) {
		t.Error("the program was changed")
	}
}
