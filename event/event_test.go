package event_test

import (
	"slices"
	"strings"
	"testing"

	"spoor/api"
	"spoor/back"
	"spoor/event"
	"spoor/rules"
)

// loaded loads rules of names and texts by turns; a last one alone is the continuation pattern.
func loaded(t *testing.T, l ...string) *rules.Rules {
	t.Helper()
	var s api.Set
	for ; len(l) > 1; l = l[2:] {
		s.Rules = append(s.Rules, api.Pattern{Name: l[0], Text: l[1]})
	}
	if len(l) == 1 {
		s.Cont = l[0]
	}
	r, e, n := rules.Load(s)
	if e != api.OK {
		t.Fatalf("Load: %d at %d", e, n)
	}
	return r
}

func span(from, to int) api.Span {
	return api.Span{From: from, To: to}
}

func long(from int) api.Span {
	return api.Span{From: from, To: from + api.MaxLine, Long: true}
}

func match(at, rule int, l ...int) api.Found {
	f := api.Found{Kind: api.FMatch, At: at, Rule: rule}
	for i := range f.Caps {
		f.Caps[i] = -1
		if i < len(l) {
			f.Caps[i] = l[i]
		}
	}
	return f
}

func y(n int) string {
	return strings.Repeat("y", n)
}

func TestSpans(t *testing.T) {
	for _, c := range []struct {
		cont, text string
		want       []api.Span
		open       api.Span
		some       bool
	}{
		{"^ ", "ax\n bx\nc\nd", []api.Span{span(0, 6)}, span(7, 8), true},
		{"^ ", "", nil, api.Span{}, false}, {"^ ", "abc", nil, api.Span{}, false}, {"^ ", "\n", nil, span(0, 0), true}, {"^ ", "\n\n", []api.Span{span(0, 0)}, span(1, 1), true},
		{"^ ", " a\n b\n", nil, span(0, 5), true}, {"^ ", "a\n b\n c", nil, span(0, 4), true}, {"^ ", "a\n \n\nb\n", []api.Span{span(0, 3), span(4, 4)}, span(5, 6), true},
		{"^ ", y(201) + "\nx\n", []api.Span{long(0)}, span(202, 203), true},
		{"^ ", "a\n" + y(201), []api.Span{span(0, 1), long(2)}, api.Span{}, false}, {"^ ", "a\n" + y(200), nil, span(0, 1), true}, {"^ ", "a\n" + y(200) + "\n", []api.Span{span(0, 1)}, span(2, 202), true},
		// A line that is given up continues nothing, and nothing continues it.
		{"^ ", "a\n " + y(200) + "\n b\n", []api.Span{span(0, 1), long(2)}, span(204, 206), true}, {"y", "y\n" + y(300) + "\ny\n", []api.Span{span(0, 1), long(2)}, span(303, 304), true},
		{"", "a\n b\n\nc", []api.Span{span(0, 1), span(2, 4), span(5, 5)}, api.Span{}, false}, {"", y(200) + "\n" + y(201) + "\n" + y(5) + "\n", []api.Span{span(0, 200), long(201), span(403, 408)}, api.Span{}, false}, {"", y(500), []api.Span{long(0)}, api.Span{}, false},
		// An event has at most MaxEvent bytes.
		{"", y(200) + "\n" + y(200) + "\n", []api.Span{span(0, 200), span(201, 401)}, api.Span{}, false},
		{"^y", y(200) + "\n" + y(200) + "\n" + y(98) + "\n", nil, span(0, 500), true}, {"^y", y(200) + "\n" + y(200) + "\n" + y(99) + "\n", []api.Span{span(0, 401)}, span(402, 501), true},
		{"^y", y(200) + "\n" + y(200) + "\n" + y(99) + "\n" + y(5) + "\n", []api.Span{span(0, 401)}, span(402, 507), true},
		{"^", strings.Repeat("\n", 503), []api.Span{span(0, 500)}, span(501, 502), true},
		// The pattern is searched in the line alone, and anywhere in it.
		{"b$", "a\nab\nb\nba\n", []api.Span{span(0, 6)}, span(7, 9), true}, {"", "", nil, api.Span{}, false}, {"(?:)", "a\nb\n", nil, span(0, 3), true},
	} {
		got, open, some := event.Spans(loaded(t, "a", "x", c.cont), []byte(c.text))
		if !slices.Equal(got, c.want) || open != c.open || some != c.some {
			t.Errorf("%q, %q: %v, open %v %v", c.cont, c.text, got, open, some)
		}
	}
}

func TestFinds(t *testing.T) {
	for _, c := range []struct {
		rules []string
		text  string
		want  []api.Found
	}{
		{[]string{"a", "x", "^ "}, "ax\n bx\nc\nd", []api.Found{match(0, 0, 1, 2)}},
		{[]string{"a", "x"}, "ax\n bx\nc\nd", []api.Found{match(0, 0, 1, 2), match(3, 0, 2, 3)}},
		{[]string{"a", "x"}, "ax", nil}, {[]string{"a", "x", "^ "}, "ax\n", nil}, {[]string{"a", "x", "^ "}, "ax\nb\n", []api.Found{match(0, 0, 1, 2)}},
		{[]string{"a", "y", "b", "x", "c", "(x)|y", "^ "}, "x\ny\n z\n\n", []api.Found{match(0, 1, 0, 1), match(0, 2, 0, 1, 0, 1), match(2, 0, 0, 1), match(2, 2, 0, 1)}},
		{[]string{"a", "x\n b", "b", "^.*$", "c", "$", "^ "}, "ax\n bx\nc\n", []api.Found{match(0, 0, 1, 5), match(0, 2, 6, 6)}},
		{[]string{"a", "y"}, y(201) + "\ny\n", []api.Found{{Kind: api.FLong, At: 0}, match(202, 0, 0, 1)}}, {[]string{"a", "y"}, y(201), []api.Found{{Kind: api.FLong, At: 0}}}, {[]string{"a", "y"}, "\n" + y(201), []api.Found{{Kind: api.FLong, At: 1}}},
		{nil, "a\n" + y(201), []api.Found{{Kind: api.FLong, At: 2}}}, {[]string{"a", ""}, "\n\n", []api.Found{match(0, 0, 0, 0), match(1, 0, 0, 0)}}, {[]string{"a", "^"}, "\n" + y(200) + "\n", []api.Found{match(0, 0, 0, 0), match(1, 0, 0, 0)}},
		{[]string{"a", "y", "^ "}, "y\n" + y(201), []api.Found{match(0, 0, 0, 1), {Kind: api.FLong, At: 2}}},
	} {
		if got := event.Finds(loaded(t, c.rules...), []byte(c.text)); !slices.Equal(got, c.want) {
			t.Errorf("%q, %q: %v", c.rules, c.text, got)
		}
	}
}

func TestNilRules(t *testing.T) {
	if l, open, some := event.Spans(nil, []byte("a\nb\n")); len(l) != 0 || open != (api.Span{}) || some {
		t.Error(l, open, some)
	}
	if l := event.Finds(nil, []byte("a\nb\n"+y(300))); len(l) != 0 {
		t.Error(l)
	}
}

// slow divides a text as P19.1 says it, with the lines cut beforehand.
func slow(r *rules.Rules, text string) ([]api.Span, api.Span, bool) {
	cont, goes := r.Cont()
	var out, open []api.Span
	at := 0
	parts := strings.Split(text, "\n")
	for i, s := range parts {
		ends := i < len(parts)-1
		l := span(at, at+len(s))
		at += len(s) + 1
		if len(s) > api.MaxLine {
			out = append(append(out, open...), long(l.From))
			open = nil
			continue
		}
		if !ends {
			continue
		}
		_, found := back.Find(cont, 0, s)
		switch {
		case goes && found && len(open) > 0 && l.To-open[0].From <= api.MaxEvent:
			open[0].To = l.To
		case goes:
			out = append(out, open...)
			open = []api.Span{l}
		default:
			out = append(out, l)
		}
	}
	if len(open) > 0 {
		return out, open[0], true
	}
	return out, api.Span{}, false
}

// TestAnyTexts holds the spans against the slow ones, and what is found in a text against what is found in its beginnings.
func TestAnyTexts(t *testing.T) {
	seed := uint32(1)
	roll := func(n int) int {
		seed = seed*1664525 + 1013904223
		return int(seed>>8) % n
	}
	for _, r := range []*rules.Rules{loaded(t, "a", "x|y$", "b", "^ ?(y)+"), loaded(t, "a", "x\n", "^ |^$"), loaded(t, "a", "y", "^ "), loaded(t, "y")} {
		for range 60 {
			text := ""
			for range roll(14) {
				text += []string{"x", " ", "\n", "\n ", "\n y", y(100), y(150), y(199), "\xE2", "\n\n"}[roll(10)]
			}
			spans, open, some := event.Spans(r, []byte(text))
			want, wantOpen, wantSome := slow(r, text)
			if !slices.Equal(spans, want) || open != wantOpen || some != wantSome {
				t.Fatalf("%q: %v, open %v %v, not %v, open %v %v", text, spans, open, some, want, wantOpen, wantSome)
			}
			at := -1
			for _, s := range spans {
				if s.From <= at || s.To < s.From {
					t.Fatalf("%q: %v", text, spans)
				}
				at = s.To
			}
			found := event.Finds(r, []byte(text))
			prefix(t, r, text, roll(len(text)+1), spans, found)
			prefix(t, r, text, roll(len(text)+1), spans, found)
		}
	}
}

func prefix(t *testing.T, r *rules.Rules, text string, n int, spans []api.Span, found []api.Found) {
	t.Helper()
	less, _, _ := event.Spans(r, []byte(text[:n]))
	if len(less) > len(spans) || !slices.Equal(less, spans[:len(less)]) {
		t.Fatalf("%q, %d bytes: %v is no beginning of %v", text, n, less, spans)
	}
	part := event.Finds(r, []byte(text[:n]))
	if len(part) > len(found) || !slices.Equal(part, found[:len(part)]) {
		t.Fatalf("%q, %d bytes: %v is no beginning of %v", text, n, part, found)
	}
}
