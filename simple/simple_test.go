package simple_test

import (
	"reflect"
	"testing"

	"spoor/api"
	"spoor/class"
	"spoor/simple"
	"spoor/syntax"
)

func parsed(t *testing.T, s string) []api.Node {
	t.Helper()
	l, e, at := syntax.Parse(s)
	if e != api.OK {
		t.Fatalf("Parse(%q): %d at %d", s, e, at)
	}
	return l
}

func TestMake(t *testing.T) {
	for _, c := range []struct{ s, want string }{
		{"(?:a|b)|c|a", "[a-c]"}, {"(?:)(?:ab)(?:)", "ab"}, {"(?:a*)+", "a*"}, {"(?:a+)+", "a+"}, {"a{1}", "a"},
		{"a{0}", "(?:)"}, {"(a){0}", "(a){0}"}, {"(?:)*", "(?:)"}, {"a|b*|a", "a|b*"},
		// Leaves stay.
		{"", "(?:)"}, {"a", "a"}, {"^", "^"}, {"$", "$"}, {"[^\x00-\U0010FFFF]", "[^\x00-\uD7FF\uE000-\U0010FFFF]"},
		// NCat.
		{"ab", "ab"}, {"a(?:bc)d", "abcd"}, {"(?:(?:ab)c)(?:d(?:ef))", "abcdef"}, {"(?:)(?:)", "(?:)"}, {"(?:)a", "a"}, {"a(?:)", "a"}, {"(?:(?:)a)(?:)", "a"},
		{"a(?:b|c)", "a[b-c]"}, {"a(?:bc|d)", "a(?:bc|d)"}, {"x{0}y", "y"}, {"(?:x{0}y{0})", "(?:)"}, {"(?:ab){1}c", "abc"},
		// NAlt.
		{"a|b", "[a-b]"}, {"a|c", "[ac]"}, {"a|a", "a"}, {"ab|ab", "ab"}, {"ab|cd|ab", "ab|cd"}, {"ab|(?:cd|ab)", "ab|cd"}, {"(?:ab|cd)|ef", "ab|cd|ef"},
		{"|", "(?:)"}, {"|a|", "(?:)|a"}, {"a||b", "a|(?:)|b"}, {"a|bb|c", "a|bb|c"}, {"a|bb|a|c", "a|bb|c"}, {"a|b|cc|a|b", "[a-b]|cc"}, {"[a-b]|cc|a|b", "[a-b]|cc"},
		{"a|b|cc|d|e", "[a-b]|cc|[d-e]"}, {"a|b|cc|d|a|b", "[a-b]|cc|d"}, {"^|^|$", "^|$"}, {"(a)|(a)", "(a)|(a)"}, {"a*|a*?", "a*|a*?"}, {"a*|a+|a*", "a*|a+"}, {"(?:a|b)*|[ab]*", "[a-b]*"},
		{"ab|a{1}b", "ab"}, {"a|[^a]", "[\x00-\uD7FF\uE000-\U0010FFFF]"}, {"[^\x00-\U0010FFFF]|a", "a"}, {"a{2}|a{3}|a{2}?", "a{2}|a{3}"},
		// NRepeat.
		{"a{2}?", "a{2}"}, {"a{0}?", "(?:)"}, {"a{1}?", "a"}, {"a{1,1}?", "a"}, {"a*?", "a*?"}, {"a{2,3}?", "a{2,3}?"}, {"(a){2}?", "(a){2}"}, {"(a){0}?", "(a){0}"}, {"(a){1}", "(a)"},
		{"(?:){0}", "(?:)"}, {"(?:){2,5}?", "(?:)"}, {"(?:a{0})*", "(?:)"}, {"(?:a{1}){1}", "a"}, {"(?:x(a)){0}", "(?:x(a)){0}"}, {"(?:xa|b*){0}", "(?:)"},
		{"(?:a*)*", "a*"}, {"(?:a+)*", "a*"}, {"(?:(?:a+)+)+", "a+"}, {"(?:(?:a|b)*)+", "[a-b]*"}, {"(?:(?:a*)+)*", "a*"},
		{"(?:a*?)*", "(?:a*?)*"}, {"(?:a*)*?", "(?:a*)*?"}, {"(?:a?)*", "(?:a?)*"}, {"(?:a*)?", "(?:a*)?"}, {"(?:a{2,})*", "(?:a{2,})*"}, {"(?:a*){2,}", "(?:a*){2,}"}, {"(?:a{0,1})+", "(?:a?)+"},
		{"(?:(?:ab)*)*", "(?:(?:ab)*)*"}, {"(?:^*)*", "(?:^*)*"}, {"(?:(a)*)*", "(?:(a)*)*"}, {"(?:a{2}){2}", "(?:a{2}){2}"},
		// NGroup.
		{"()", "((?:))"}, {"((?:ab)c)", "(abc)"}, {"(a|b)", "([a-b])"}, {"((?:a*)*)", "(a*)"}, {"(a{0})", "((?:))"},
	} {
		l := parsed(t, c.s)
		got := simple.Make(l)
		if printed := syntax.Print(got); printed != c.want {
			t.Errorf("Make of %q is %q, not %q", c.s, printed, c.want)
		}
		check(t, l, got)
	}
}

// check tells whether got can be the simpler form of l, apart from what it finds.
func check(t *testing.T, l, got []api.Node) {
	t.Helper()
	s := syntax.Print(l)
	if !syntax.Right(got) {
		t.Fatalf("Make of %q is not right: %v", s, got)
	}
	if len(got) > len(l) || syntax.Groups(got) != syntax.Groups(l) {
		t.Fatalf("Make of %q has %d nodes and %d groups", s, len(got), syntax.Groups(got))
	}
	if again := simple.Make(got); !same(again, got) {
		t.Fatalf("Make of %q is %q, and of this %q", s, syntax.Print(got), syntax.Print(again))
	}
}

func same(a, b []api.Node) bool {
	if len(a) != len(b) {
		return false
	}
	for i := range a {
		x, y := a[i], b[i]
		if len(x.Ranges)+len(y.Ranges) == 0 {
			x.Ranges, y.Ranges = nil, nil
		}
		if !reflect.DeepEqual(x, y) {
			return false
		}
	}
	return true
}

func TestMakeOfWhatIsNotRight(t *testing.T) {
	a := api.Node{Op: api.NClass, Ranges: []api.Range{{Lo: 'a', Hi: 'a'}}}
	for _, l := range [][]api.Node{nil, {}, {a, a}, {{Op: api.NCat, Kids: 2}, a}, {{}}, {{Op: api.NRepeat, Min: 31, Max: -1, Kids: 1}, a}} {
		if got := simple.Make(l); len(got) != 0 {
			t.Errorf("Make(%v) = %v", l, got)
		}
	}
}

func TestDeepChains(t *testing.T) {
	a := api.Node{Op: api.NClass, Ranges: []api.Range{{Lo: 'a', Hi: 'a'}}}
	for _, op := range []api.Node{{Op: api.NRepeat, Max: -1, Kids: 1}, {Op: api.NRepeat, Min: 2, Max: 2, Kids: 1}, {Op: api.NRepeat, Min: 1, Max: 1, Kids: 1}} {
		var l []api.Node
		for range 2 * api.MaxPattern {
			l = append(l, op)
		}
		l = append(l, a)
		check(t, l, simple.Make(l))
	}
}

func TestMemory(t *testing.T) {
	l := parsed(t, "(?:a|b)|(c[x-z]*[x-z]*)|ab|ab")
	before := parsed(t, "(?:a|b)|(c[x-z]*[x-z]*)|ab|ab")
	got := simple.Make(l)
	want := simple.Make(before)
	if !same(l, before) {
		t.Fatal("the argument was changed")
	}
	for i := range got {
		g := got[i].Ranges
		for j := range g[:cap(g)] {
			g[:cap(g)][j] = api.Range{Lo: rune(i), Hi: rune(i)}
		}
	}
	for i := range got {
		for _, g := range got[i].Ranges {
			if g.Lo != rune(i) {
				t.Error("two lists share memory")
			}
		}
	}
	if !same(l, before) || !same(simple.Make(l), want) {
		t.Error("the result shares memory with the argument")
	}
}

// dice returns numbers that look like any.
type dice uint32

func (d *dice) roll(n int) int {
	*d = *d*1664525 + 1013904223
	return int(uint32(*d)>>8) % n
}

// node makes any node that is right; groups is the number of groups ahead of it.
func (d *dice) node(depth int, groups *int) []api.Node {
	kind := d.roll(9)
	if depth == 0 {
		kind = d.roll(5)
	}
	switch kind {
	case 0:
		return []api.Node{{Op: api.NEmpty}}
	case 1:
		return []api.Node{{Op: api.NBegin + d.roll(2)}}
	case 2, 3, 4:
		lo := 'a' + rune(d.roll(3))
		return []api.Node{{Op: api.NClass, Ranges: class.Make(api.Range{Lo: lo, Hi: lo + rune(d.roll(2))})}}
	case 5, 6:
		l := []api.Node{{Op: api.NCat + kind - 5, Kids: 2 + d.roll(3)}}
		for range l[0].Kids {
			l = append(l, d.node(depth-1, groups)...)
		}
		return l
	case 7:
		n := api.Node{Op: api.NRepeat, Min: d.roll(3), Max: -1, Lazy: d.roll(3) == 0, Kids: 1}
		if d.roll(2) == 0 {
			n.Max = n.Min + d.roll(2)
		}
		return append([]api.Node{n}, d.node(depth-1, groups)...)
	}
	if *groups == api.MaxGroups {
		return d.node(depth-1, groups)
	}
	*groups++
	n := api.Node{Op: api.NGroup, Cap: *groups, Kids: 1}
	return append([]api.Node{n}, d.node(depth-1, groups)...)
}

func TestAnyPatterns(t *testing.T) {
	d := dice(3)
	changed := 0
	for range 20000 {
		groups := 0
		l := d.node(1+d.roll(4), &groups)
		if !syntax.Right(l) {
			continue
		}
		got := simple.Make(l)
		check(t, l, got)
		if !same(got, l) {
			changed++
		}
	}
	if changed < 3000 {
		t.Error("too few became simpler:", changed)
	}
}
