package syntax_test

import (
	"math"
	"reflect"
	"strconv"
	"strings"
	"testing"

	"spoor/api"
	"spoor/class"
	"spoor/syntax"
)

// show writes nodes so that every field is seen.
func show(l []api.Node) string {
	var b strings.Builder
	rest := l
	var one func()
	one = func() {
		n := rest[0]
		rest = rest[1:]
		switch n.Op {
		case api.NEmpty:
			b.WriteString("empty")
		case api.NBegin:
			b.WriteString("begin")
		case api.NEnd:
			b.WriteString("end")
		case api.NClass:
			b.WriteString(showRanges(n.Ranges))
		case api.NCat:
			b.WriteString("cat")
		case api.NAlt:
			b.WriteString("alt")
		case api.NRepeat:
			b.WriteString("rep " + strconv.Itoa(n.Min) + " " + strconv.Itoa(n.Max))
			if n.Lazy {
				b.WriteString(" lazy")
			}
		case api.NGroup:
			b.WriteString("group " + strconv.Itoa(n.Cap))
		}
		if n.Kids == 0 {
			return
		}
		b.WriteString("(")
		for i := range n.Kids {
			if i > 0 {
				b.WriteString(", ")
			}
			one()
		}
		b.WriteString(")")
	}
	one()
	if len(rest) > 0 {
		b.WriteString(" and more")
	}
	return b.String()
}

func showRanges(l []api.Range) string {
	s := "["
	for i, g := range l {
		if i > 0 {
			s += " "
		}
		s += showRune(g.Lo)
		if g.Hi != g.Lo {
			s += "-" + showRune(g.Hi)
		}
	}
	return s + "]"
}

func showRune(r rune) string {
	if r > 32 && r < 127 {
		return string(r)
	}
	return strconv.FormatInt(int64(r), 16)
}

const dot = "[0-9 b-d7ff e000-10ffff]"

func TestParse(t *testing.T) {
	for _, c := range []struct{ s, want string }{
		{"", "empty"},
		{"a", "[a]"},
		{"a|b*", "alt([a], rep 0 -1([b]))"},
		{"(a)(?:b)", "cat(group 1([a]), [b])"},
		{"(?:)", "empty"},
		{"()", "group 1(empty)"},
		{"|", "alt(empty, empty)"},
		{"a||b", "alt([a], empty, [b])"},
		{"(|a)", "group 1(alt(empty, [a]))"},
		{"a(?:bc)d", "cat([a], cat([b], [c]), [d])"},
		{"a|(?:b|c)", "alt([a], alt([b], [c]))"},
		{"(?:(?:a))", "[a]"},
		{"((a)(b))(c)", "cat(group 1(cat(group 2([a]), group 3([b]))), group 4([c]))"},
		{"^$", "cat(begin, end)"},
		{"^*$+", "cat(rep 0 -1(begin), rep 1 -1(end))"},
		{".", dot},
		{"a*", "rep 0 -1([a])"}, {"a+", "rep 1 -1([a])"}, {"a?", "rep 0 1([a])"},
		{"a*?", "rep 0 -1 lazy([a])"}, {"a+?", "rep 1 -1 lazy([a])"}, {"a??", "rep 0 1 lazy([a])"},
		{"a{3}", "rep 3 3([a])"}, {"a{3,}", "rep 3 -1([a])"}, {"a{3,5}", "rep 3 5([a])"},
		{"a{3}?", "rep 3 3 lazy([a])"}, {"a{3,}?", "rep 3 -1 lazy([a])"}, {"a{3,5}?", "rep 3 5 lazy([a])"},
		{"a{0}", "rep 0 0([a])"}, {"a{0,0}", "rep 0 0([a])"}, {"a{30}", "rep 30 30([a])"}, {"a{0,30}", "rep 0 30([a])"}, {"a{30,}", "rep 30 -1([a])"},
		{"a{0000000000000000000000000003,000004}", "rep 3 4([a])"}, {"a{00}", "rep 0 0([a])"},
		{"ab*", "cat([a], rep 0 -1([b]))"},
		{"(?:ab)*", "rep 0 -1(cat([a], [b]))"},
		{"(?:a*)*", "rep 0 -1(rep 0 -1([a]))"},
		{"(a)*", "rep 0 -1(group 1([a]))"},
		{"(?:)*", "rep 0 -1(empty)"},
		{"é€", "cat([e9], [20ac])"},
		{"\uFFFD", "[fffd]"},
		{"\U0010FFFF", "[10ffff]"},
		{"-", "[-]"}, {"!:,", "cat([!], [:], [,])"}, {"\n", "[a]"}, {"\x00", "[0]"},
		{"\\n\\t\\r", "cat([a], [9], [d])"}, {"\\d", "[0-9]"}, {"\\s", "[9-a d 20]"}, {"\\w", "[0-9 A-Z _ a-z]"},
		{"\\.\\\\\\[\\^\\$\\(\\{\\|", "cat([.], [\\], [[], [^], [$], [(], [{], [|])"},
		{"\\d+", "rep 1 -1([0-9])"},
		{"[a]", "[a]"}, {"[abc]", "[a-c]"}, {"[cba]", "[a-c]"}, {"[a-c]", "[a-c]"}, {"[a-a]", "[a]"}, {"[ac-eb]", "[a-e]"},
		{"[a^]", "[^ a]"}, {"[\\^a]", "[^ a]"}, {"[^a]", "[0-` b-d7ff e000-10ffff]"}, {"[^^]", "[0-] _-d7ff e000-10ffff]"},
		{"[^\\n]", dot}, {"[.$*+?(){}|]", "[$ (-+ . ? {-}]"},
		{"[\\d\\s]", "[9-a d 20 0-9]"}, {"[\\]\\-\\[]", "[- [ ]]"}, {"[!-\\-]", "[!--]"}, {"[\\n-\\r]", "[a-d]"},
		{"[+-\\-]", "[+--]"}, {"[\uD7FF-\uE000]", "[d7ff e000]"}, {"[^\x00-\U0010FFFF]", "[]"},
		{"[é-€]", "[e9-20ac]"}, {"[a|b]", "[a-b |]"}, {"[a]*", "rep 0 -1([a])"},
	} {
		l, e, at := syntax.Parse(c.s)
		if e != api.OK || at != 0 {
			t.Errorf("Parse(%q): %d at %d", c.s, e, at)
			continue
		}
		if got := show(l); got != c.want {
			t.Errorf("Parse(%q) = %s, not %s", c.s, got, c.want)
		}
		if !syntax.Right(l) {
			t.Errorf("Parse(%q) is not right", c.s)
		}
	}
}

func TestParseErrors(t *testing.T) {
	for _, c := range []struct {
		s  string
		e  api.Errno
		at int
	}{
		// Characters that cannot begin an atom.
		{"*", api.ErrForm, 0}, {"+", api.ErrForm, 0}, {"?", api.ErrForm, 0}, {"{", api.ErrForm, 0}, {"{2}", api.ErrForm, 0}, {"{31}", api.ErrForm, 0},
		{"}", api.ErrForm, 0}, {"]", api.ErrForm, 0}, {")", api.ErrForm, 0}, {"a)", api.ErrForm, 1}, {"(a))", api.ErrForm, 3}, {"a|*", api.ErrForm, 2},
		{"a**", api.ErrForm, 2}, {"a*+", api.ErrForm, 2}, {"a*??", api.ErrForm, 3}, {"a{2}{3}", api.ErrForm, 4}, {"a{2}*", api.ErrForm, 4}, {"(*)", api.ErrForm, 1},
		{"a}", api.ErrForm, 1}, {"a]", api.ErrForm, 1}, {"é*)", api.ErrForm, 3},
		// Parentheses.
		{"(a", api.ErrForm, 0}, {"(", api.ErrForm, 0}, {"((a)", api.ErrForm, 0}, {"(a(b", api.ErrForm, 2}, {"(?:a", api.ErrForm, 0}, {"x(a|", api.ErrForm, 1},
		{"(?", api.ErrForm, 0}, {"(?a)", api.ErrForm, 0}, {"a(?)", api.ErrForm, 1}, {"(?\xff)", api.ErrForm, 0}, {"(?=a)", api.ErrForm, 0}, {"(?:", api.ErrForm, 0},
		{"(a)(b)(c)(d)(e)", api.ErrMany, 12}, {"(a)(b)(c)(d)(e", api.ErrMany, 12}, {"((((()))))", api.ErrMany, 4}, {"(a)(b)(c)(d)(?e)", api.ErrForm, 12},
		{strings.Repeat("(?:", 21), api.ErrDeep, 60}, {strings.Repeat("(?:", 20) + "(?", api.ErrForm, 60}, {strings.Repeat("(?:", 20), api.ErrForm, 57},
		{strings.Repeat("(?:", 20) + "(", api.ErrDeep, 60}, {"((((" + strings.Repeat("(?:", 16) + "(", api.ErrDeep, 52}, {"((((" + strings.Repeat("(?:", 15) + "(", api.ErrMany, 49},
		// Counts.
		{"a{31}", api.ErrLong, 1}, {"a{31,}", api.ErrLong, 1}, {"a{0,31}", api.ErrLong, 1}, {"a{31,32}", api.ErrLong, 1}, {"a{2,1}", api.ErrForm, 1}, {"a{32,31}", api.ErrForm, 1},
		{"a{", api.ErrForm, 1}, {"a{}", api.ErrForm, 1}, {"a{,}", api.ErrForm, 1}, {"a{,5}", api.ErrForm, 1}, {"a{2", api.ErrForm, 1}, {"a{2,", api.ErrForm, 1}, {"a{2,3", api.ErrForm, 1},
		{"a{ 2}", api.ErrForm, 1}, {"a{2 }", api.ErrForm, 1}, {"a{-1}", api.ErrForm, 1}, {"a{x}", api.ErrForm, 1}, {"a{1:}", api.ErrForm, 1}, {"a{/}", api.ErrForm, 1}, {"a{1,2:}", api.ErrForm, 1}, {"a{2,x}", api.ErrForm, 1}, {"a{2,3,4}", api.ErrForm, 1}, {"a{2\xff}", api.ErrForm, 1},
		{"a{31", api.ErrForm, 1}, {"ab{99999999999999999999999999}", api.ErrLong, 2}, {"a{18446744073709551617}", api.ErrLong, 1},
		{"a{99999999999999999999999999,99999999999999999999999998}", api.ErrForm, 1}, {"a{99999999999999999999999998,99999999999999999999999999}", api.ErrLong, 1},
		{"a{100,99}", api.ErrForm, 1}, {"a{0100,99}", api.ErrForm, 1}, {"a{18446744073709551617,2}", api.ErrForm, 1}, {"a{9,18446744073709551617}", api.ErrLong, 1},
		// Escapes.
		{"\\q", api.ErrForm, 0}, {"\\", api.ErrForm, 0}, {"ab\\", api.ErrForm, 2}, {"\\é", api.ErrForm, 0}, {"\\0", api.ErrForm, 0}, {"\\ ", api.ErrForm, 0}, {"\\N", api.ErrForm, 0}, {"\\\n", api.ErrForm, 0},
		{"\\\x7f", api.ErrForm, 0}, {"\\D", api.ErrForm, 0},
		// Bytes that are no UTF-8.
		{"\xff", api.ErrForm, 0}, {"a\xe2\x82", api.ErrForm, 1}, {"\\\xff", api.ErrForm, 1}, {"[\xff]", api.ErrForm, 1}, {"[\\\xff]", api.ErrForm, 2}, {"(a\xff", api.ErrForm, 2}, {"\xed\xa0\x80", api.ErrForm, 0},
		// Classes.
		{"[", api.ErrForm, 0}, {"[]", api.ErrForm, 0}, {"[^", api.ErrForm, 0}, {"[^]", api.ErrForm, 0}, {"[]a]", api.ErrForm, 0}, {"[^]a]", api.ErrForm, 0}, {"[]\xff", api.ErrForm, 0}, {"x[]", api.ErrForm, 1},
		{"[a", api.ErrForm, 0}, {"x[abc", api.ErrForm, 1}, {"[[", api.ErrForm, 1}, {"[a[", api.ErrForm, 2}, {"[-", api.ErrForm, 1}, {"[-a]", api.ErrForm, 1}, {"[^-a]", api.ErrForm, 2}, {"[a-c-e]", api.ErrForm, 4},
		{"[a-", api.ErrForm, 1}, {"[a-]", api.ErrForm, 1}, {"[xa-]", api.ErrForm, 2}, {"[a--]", api.ErrForm, 1}, {"[a-[]", api.ErrForm, 1}, {"[!-[]", api.ErrForm, 1}, {"[!--]", api.ErrForm, 1}, {"[!-]", api.ErrForm, 1}, {"[!-]]", api.ErrForm, 1}, {"[!-", api.ErrForm, 1}, {"[a-\\d]", api.ErrForm, 1}, {"[a-\\w]", api.ErrForm, 1},
		{"[\\d-z]", api.ErrForm, 1}, {"[\\s-]", api.ErrForm, 1}, {"[\\w-", api.ErrForm, 1}, {"[x\\w-\\d]", api.ErrForm, 2}, {"[z-a]", api.ErrForm, 1}, {"[xz-a]", api.ErrForm, 2}, {"[éé-a]", api.ErrForm, 3},
		{"[a-\\q]", api.ErrForm, 3}, {"[a-\\", api.ErrForm, 3}, {"[a-\xff]", api.ErrForm, 3}, {"[a-\\\xff]", api.ErrForm, 4}, {"[\\d-\\q]", api.ErrForm, 4}, {"[\\d-\xff]", api.ErrForm, 4}, {"[\\d-\\", api.ErrForm, 4},
		{"[\\d-\\\xff", api.ErrForm, 5}, {"[z-\\q]", api.ErrForm, 3}, {"[a\\q]", api.ErrForm, 2}, {"[\\q-a]", api.ErrForm, 1}, {"[a\\", api.ErrForm, 2}, {"[\\d-[]", api.ErrForm, 1}, {"[\\d--]", api.ErrForm, 1},
		{"[\\", api.ErrForm, 1}, {"[a-\\]", api.ErrForm, 1},
		// The first error that is met.
		{"[a-b", api.ErrForm, 0}, {"(a*", api.ErrForm, 0}, {"(a**", api.ErrForm, 3}, {"([", api.ErrForm, 1}, {"(\\", api.ErrForm, 1}, {"a{31}\xff", api.ErrLong, 1},
		// Too long.
		{strings.Repeat("a", 121), api.ErrLong, 0}, {"**" + strings.Repeat("a", 121), api.ErrLong, 0}, {strings.Repeat("\xff", 121), api.ErrLong, 0},
	} {
		if l, e, at := syntax.Parse(c.s); len(l) != 0 || e != c.e || at != c.at {
			t.Errorf("Parse(%q): %d at %d, not %d at %d", c.s, e, at, c.e, c.at)
		}
	}
}

func TestParseAtTheLimits(t *testing.T) {
	for _, s := range []string{
		strings.Repeat("a", 120), strings.Repeat("é", 60), strings.Repeat("|", 120), strings.Repeat("(?:", 20) + "a" + strings.Repeat(")", 20),
		"((((" + strings.Repeat("(?:", 16) + strings.Repeat(")", 20), "(a)(b)(c)(d)(?:e)", strings.Repeat("(?:)", 30), strings.Repeat("a?", 60),
	} {
		l, e, at := syntax.Parse(s)
		if e != api.OK || at != 0 || !syntax.Right(l) {
			t.Errorf("Parse(%q): %d at %d", s, e, at)
		}
	}
}

func TestEscapesOfPunctuation(t *testing.T) {
	for c := range 128 {
		s := "\\" + string(rune(c))
		l, e, at := syntax.Parse(s)
		isPunct := c > 32 && c < 127 && !(c >= '0' && c <= '9') && !(c >= 'A' && c <= 'Z') && !(c >= 'a' && c <= 'z')
		switch {
		case isPunct:
			if e != api.OK || show(l) != "["+string(rune(c))+"]" {
				t.Errorf("%q: %d", s, e)
			}
			if printed := syntax.Print(l); printed != s {
				t.Errorf("Print of %q: %q", s, printed)
			}
		case strings.ContainsRune("ntrdsw", rune(c)):
			if e != api.OK {
				t.Errorf("%q: %d", s, e)
			}
		default:
			if len(l) != 0 || e != api.ErrForm || at != 0 {
				t.Errorf("%q: %d at %d", s, e, at)
			}
		}
	}
}

// parsed returns the nodes of a pattern that is right.
func parsed(t *testing.T, s string) []api.Node {
	t.Helper()
	l, e, at := syntax.Parse(s)
	if e != api.OK {
		t.Fatalf("Parse(%q): %d at %d", s, e, at)
	}
	return l
}

func TestPrint(t *testing.T) {
	for _, c := range []struct{ s, want string }{
		{"[a-c]+?x{2}|(?:yz)*", "[a-c]+?x{2}|(?:yz)*"},
		{"(?:)", "(?:)"}, {"", "(?:)"}, {"[^\\n]", "."}, {".", "."},
		{"a", "a"}, {"[a]", "a"}, {"[ab]", "[a-b]"}, {"[acb]", "[a-c]"}, {"[ac]", "[ac]"}, {"[xa-c]", "[a-cx]"},
		{"[^\x00-\U0010FFFF]", "[^\x00-\uD7FF\uE000-\U0010FFFF]"},
		{"\\d", "[0-9]"}, {"\\s", "[\\t-\\n\\r ]"}, {"\\w", "[0-9A-Z\\_a-z]"},
		{"\n\t\r", "\\n\\t\\r"}, {"-", "\\-"}, {"é", "é"}, {"\x00", "\x00"}, {" ", " "}, {"\x7f", "\x7f"},
		{"^$", "^$"}, {"^*", "^*"},
		{"a|b", "a|b"}, {"|", "(?:)|(?:)"}, {"a|", "a|(?:)"}, {"()", "((?:))"},
		{"(?:ab)c", "(?:ab)c"}, {"(?:a|b)c", "(?:a|b)c"}, {"(?:a|b)|c", "(?:a|b)|c"}, {"ab|c", "ab|c"}, {"(?:a*)b", "a*b"},
		{"(?:ab)*", "(?:ab)*"}, {"(?:a|b)+", "(?:a|b)+"}, {"(?:a*)?", "(?:a*)?"}, {"(?:)*", "(?:)*"}, {"(a|b)*", "(a|b)*"}, {"((a))", "((a))"},
		{"(ab)", "(ab)"}, {"(a*)", "(a*)"},
		{"a{0,}", "a*"}, {"a{1,}", "a+"}, {"a{0,1}", "a?"}, {"a{2,}", "a{2,}"}, {"a{2,2}", "a{2}"}, {"a{0}", "a{0}"}, {"a{1}", "a{1}"}, {"a{0,2}", "a{0,2}"}, {"a{007,010}", "a{7,10}"},
		{"a{0,}?", "a*?"}, {"a{1,}?", "a+?"}, {"a??", "a??"}, {"a{2,}?", "a{2,}?"}, {"a{2}?", "a{2}?"}, {"a{2,3}?", "a{2,3}?"},
		{"\\*\\+", "\\*\\+"}, {"[\\]-a]", "[\\]-a]"}, {"[^a]", "[\x00-\\`b-\uD7FF\uE000-\U0010FFFF]"}, {"[\\^x]", "[\\^x]"}, {"[x^]", "[\\^x]"},
	} {
		if got := syntax.Print(parsed(t, c.s)); got != c.want {
			t.Errorf("Print of %q = %q, not %q", c.s, got, c.want)
		}
		if got := syntax.Print(parsed(t, c.want)); got != c.want {
			t.Errorf("Print of %q = %q", c.want, got)
		}
	}
}

func leaf(r rune) api.Node {
	return api.Node{Op: api.NClass, Ranges: []api.Range{{Lo: r, Hi: r}}}
}

func chain(n int, op api.Node, end api.Node) []api.Node {
	var l []api.Node
	for range n {
		l = append(l, op)
	}
	return append(l, end)
}

func TestRight(t *testing.T) {
	a := leaf('a')
	star := api.Node{Op: api.NRepeat, Max: -1, Kids: 1}
	cat2 := api.Node{Op: api.NCat, Kids: 2}
	many := append([]api.Node{{Op: api.NCat, Kids: 479}}, chain(478, a, a)...)
	wide := append([]api.Node{{Op: api.NCat, Kids: 480}}, chain(479, a, a)...)
	group := func(cap int) api.Node { return api.Node{Op: api.NGroup, Cap: cap, Kids: 1} }
	// deep has, beside a chain, a node at the end whose ancestors are few again.
	deep := append(append([]api.Node{cat2}, chain(239, star, a)...), a)
	for i, l := range [][]api.Node{
		{{Op: api.NEmpty}}, {{Op: api.NBegin}}, {{Op: api.NEnd}}, {a}, {{Op: api.NClass}}, {{Op: api.NClass, Ranges: []api.Range{}}},
		{cat2, a, a}, {{Op: api.NAlt, Kids: 3}, a, a, a}, {cat2, cat2, a, a, a}, {cat2, a, cat2, a, a}, many,
		{star, a}, {{Op: api.NRepeat, Kids: 1}, a}, {{Op: api.NRepeat, Min: 30, Max: 30, Lazy: true, Kids: 1}, a}, {{Op: api.NRepeat, Min: 30, Max: -1, Kids: 1}, a},
		{group(1), a}, {group(1), group(2), group(3), group(4), a}, {cat2, group(1), a, group(2), a},
		chain(240, star, a), deep,
	} {
		if !syntax.Right(l) {
			t.Errorf("case %d is right", i)
		}
		if syntax.Print(l) == "" {
			t.Errorf("case %d is printed", i)
		}
	}
	for i, l := range [][]api.Node{
		nil, {}, {{}}, {{Op: 9}}, {{Op: -1}}, {{Op: math.MaxInt}}, {a, a}, {star, a, a}, {star}, {cat2, a}, {cat2}, {cat2, a, a, a}, wide, chain(241, star, a),
		{{Op: api.NCat}}, {{Op: api.NCat, Kids: 1}, a}, {{Op: api.NAlt, Kids: 1}, a}, {{Op: api.NAlt}}, {{Op: api.NCat, Kids: -2}}, {{Op: api.NCat, Kids: math.MaxInt}, a, a},
		{{Op: api.NRepeat, Max: -1}}, {{Op: api.NRepeat, Max: -1, Kids: 2}, a, a}, {{Op: api.NGroup, Cap: 1}}, {{Op: api.NGroup, Cap: 1, Kids: 2}, a, a},
		{{Op: api.NEmpty, Kids: 1}, a}, {{Op: api.NBegin, Kids: 1}, a}, {{Op: api.NEnd, Kids: -1}}, {{Op: api.NClass, Kids: 1}, a},
		{{Op: api.NEmpty, Min: 1}}, {{Op: api.NEmpty, Max: -1}}, {{Op: api.NEmpty, Lazy: true}}, {{Op: api.NEmpty, Cap: 1}}, {{Op: api.NEmpty, Ranges: a.Ranges}},
		{{Op: api.NBegin, Cap: 1}}, {{Op: api.NEnd, Max: 1}}, {{Op: api.NEnd, Ranges: a.Ranges}}, {{Op: api.NBegin, Lazy: true}},
		{{Op: api.NClass, Min: 1}}, {{Op: api.NClass, Max: 1}}, {{Op: api.NClass, Lazy: true}}, {{Op: api.NClass, Cap: 1}},
		{{Op: api.NCat, Kids: 2, Min: 1}, a, a}, {{Op: api.NCat, Kids: 2, Ranges: a.Ranges}, a, a}, {{Op: api.NAlt, Kids: 2, Lazy: true}, a, a}, {{Op: api.NAlt, Kids: 2, Cap: 1}, a, a}, {{Op: api.NAlt, Kids: 2, Max: -1}, a, a},
		{{Op: api.NRepeat, Max: -1, Kids: 1, Cap: 1}, a}, {{Op: api.NRepeat, Max: -1, Kids: 1, Ranges: a.Ranges}, a},
		{{Op: api.NGroup, Cap: 1, Kids: 1, Min: 1}, a}, {{Op: api.NGroup, Cap: 1, Kids: 1, Max: -1}, a}, {{Op: api.NGroup, Cap: 1, Kids: 1, Lazy: true}, a}, {{Op: api.NGroup, Cap: 1, Kids: 1, Ranges: a.Ranges}, a},
		{{Op: api.NClass, Ranges: []api.Range{{Lo: 'b', Hi: 'a'}}}}, {{Op: api.NClass, Ranges: []api.Range{{Lo: 'a', Hi: 'b'}, {Lo: 'c', Hi: 'c'}}}}, {{Op: api.NClass, Ranges: []api.Range{{Lo: -1, Hi: 5}}}},
		{{Op: api.NRepeat, Min: -1, Max: -1, Kids: 1}, a}, {{Op: api.NRepeat, Min: 31, Max: -1, Kids: 1}, a}, {{Op: api.NRepeat, Min: 2, Max: 1, Kids: 1}, a}, {{Op: api.NRepeat, Min: 2, Max: 31, Kids: 1}, a}, {{Op: api.NRepeat, Min: 2, Max: -2, Kids: 1}, a}, {{Op: api.NRepeat, Min: 31, Max: 31, Kids: 1}, a}, {{Op: api.NRepeat, Min: 1, Kids: 1}, a},
		{group(0), a}, {group(2), a}, {group(1), group(1), a}, {cat2, group(2), a, group(1), a}, {cat2, group(1), a, group(3), a}, {group(1), group(2), group(3), group(4), group(5), a},
	} {
		if syntax.Right(l) {
			t.Errorf("case %d is not right: %v", i, l)
		}
		if s := syntax.Print(l); s != "" {
			t.Errorf("case %d is printed: %q", i, s)
		}
		if n := syntax.Groups(l); n != 0 {
			t.Errorf("case %d has %d groups", i, n)
		}
	}
}

func TestGroups(t *testing.T) {
	for _, c := range []struct {
		s string
		n int
	}{{"", 0}, {"a(?:b)", 0}, {"(a)", 1}, {"(a(b))|(c)*", 3}, {"(a)(b)(c)(d)", 4}, {"\\(a\\)[(]", 0}} {
		if n := syntax.Groups(parsed(t, c.s)); n != c.n {
			t.Errorf("Groups of %q: %d", c.s, n)
		}
	}
}

// dice returns numbers that look like any.
type dice uint32

func (d *dice) roll(n int) int {
	*d = *d*1664525 + 1013904223
	return int(uint32(*d)>>8) % n
}

// node makes any node that is right; groups is the number of groups ahead of it.
func (d *dice) node(depth int, groups *int) []api.Node {
	kind := d.roll(8)
	if depth == 0 {
		kind = d.roll(4)
	}
	switch kind {
	case 0:
		return []api.Node{{Op: api.NEmpty}}
	case 1:
		return []api.Node{{Op: api.NBegin + d.roll(2)}}
	case 2, 3:
		var g []api.Range
		for range d.roll(4) {
			lo := []rune{0, '\t', '\n', '-', 'a', ']', 'é', 0xD7FF, 0xE000, 0x10FFFF}[d.roll(10)]
			g = append(g, api.Range{Lo: lo, Hi: lo + rune(d.roll(5))})
		}
		return []api.Node{{Op: api.NClass, Ranges: class.Make(g...)}}
	case 4, 5:
		n := api.Node{Op: api.NCat + kind - 4, Kids: 2 + d.roll(2)}
		l := []api.Node{n}
		for range n.Kids {
			l = append(l, d.node(depth-1, groups)...)
		}
		return l
	case 6:
		n := api.Node{Op: api.NRepeat, Min: d.roll(4), Max: -1, Lazy: d.roll(3) == 0, Kids: 1}
		if d.roll(2) == 0 {
			n.Max = n.Min + d.roll(3)
		}
		return append([]api.Node{n}, d.node(depth-1, groups)...)
	}
	if *groups == api.MaxGroups {
		return d.node(depth-1, groups)
	}
	*groups++
	n := api.Node{Op: api.NGroup, Cap: *groups, Kids: 1}
	return append([]api.Node{n}, d.node(depth-1, groups)...)
}

func TestParseOfPrint(t *testing.T) {
	d := dice(1)
	compared := 0
	for range 20000 {
		groups := 0
		l := d.node(1+d.roll(4), &groups)
		if !syntax.Right(l) {
			t.Fatal("not right: ", show(l))
		}
		if syntax.Groups(l) != groups {
			t.Fatal("groups of ", show(l))
		}
		s := syntax.Print(l)
		got, e, at := syntax.Parse(s)
		if len(s) > api.MaxPattern {
			if e != api.ErrLong {
				t.Fatal(e)
			}
			continue
		}
		if e != api.OK || show(got) != show(l) {
			t.Fatalf("%s is printed %q, which is %d at %d", show(l), s, e, at)
		}
		compared++
	}
	if compared < 5000 {
		t.Error("too few were short enough:", compared)
	}
}

// TestAnyBytes parses what looks like patterns: the answers must hold together.
func TestAnyBytes(t *testing.T) {
	d := dice(7)
	const alphabet = "ab()()[]^$.*+?{}|\\-,?:12309ndsw\xc3\xa9\xff"
	good := 0
	for range 60000 {
		b := make([]byte, d.roll(12))
		for i := range b {
			b[i] = alphabet[d.roll(len(alphabet))]
		}
		l, e, at := syntax.Parse(string(b))
		if e != api.OK {
			if len(l) != 0 || at < 0 || at >= len(b) {
				t.Fatalf("%q: %d at %d", b, e, at)
			}
			continue
		}
		good++
		if at != 0 || !syntax.Right(l) {
			t.Fatalf("%q: at %d", b, at)
		}
		if again, e, _ := syntax.Parse(syntax.Print(l)); e != api.OK || show(again) != show(l) {
			t.Fatalf("%q is printed %q", b, syntax.Print(l))
		}
	}
	if good < 3000 {
		t.Error("too few were patterns:", good)
	}
}

func TestMemory(t *testing.T) {
	l := parsed(t, "[a-c][a-c]..\\d\\d")
	want := show(l)
	for i := range l {
		for j := range l[i].Ranges[:cap(l[i].Ranges)] {
			l[i].Ranges[:cap(l[i].Ranges)][j] = api.Range{Lo: 1, Hi: 1}
		}
		l[i].Ranges = nil
	}
	if got := show(parsed(t, "[a-c][a-c]..\\d\\d")); got != want {
		t.Error("a later call sees what was done to a result", got)
	}
	l = parsed(t, "ab")
	b := append([]api.Node(nil), l...)
	l[1].Ranges = append(l[1].Ranges, api.Range{Lo: 'x', Hi: 'x'})
	if !reflect.DeepEqual(b[2], parsed(t, "ab")[2]) {
		t.Error("two lists share memory")
	}
	args := parsed(t, "a(b|[c-d])*")
	before := show(args)
	syntax.Print(args)
	syntax.Right(args)
	syntax.Groups(args)
	if show(args) != before {
		t.Error("the argument was changed")
	}
}
