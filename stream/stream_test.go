package stream_test

import (
	"bytes"
	"math"
	"slices"
	"strings"
	"testing"

	"spoor/api"
	"spoor/event"
	"spoor/rules"
	"spoor/scan"
	"spoor/state"
	"spoor/stream"
	"spoor/wire"
)

// loaded loads rules of names and texts by turns; a last one alone is the continuation pattern.
func loaded(t *testing.T, l ...string) *rules.Rules {
	t.Helper()
	var s api.Set
	for ; len(l) > 1; l = l[2:] {
		s.Rules = append(s.Rules, api.Pattern{Name: l[0], Text: l[1]})
	}
	if len(l) == 1 {
		s.Cont = l[0]
	}
	r, e, n := rules.Load(s)
	if e != api.OK {
		t.Fatalf("Load: %d at %d", e, n)
	}
	return r
}

func made(t *testing.T, r *rules.Rules) *stream.Stream {
	t.Helper()
	x, e := stream.New(r)
	if e != api.OK || x == nil {
		t.Fatal(e)
	}
	return x
}

// after returns the state of a stream after a text.
func after(t *testing.T, r *rules.Rules, text string) api.Stream {
	t.Helper()
	x := made(t, r)
	x.Feed([]byte(text))
	return x.State()
}

// scanned returns the state of a scanner after a text.
func scanned(t *testing.T, p api.Prog, text string) api.Scan {
	t.Helper()
	s, e := scan.New(p)
	if e != api.OK {
		t.Fatal(e)
	}
	s.Feed([]byte(text))
	return s.Scan()
}

// ends returns what a scanner finds after a text.
func ends(t *testing.T, p api.Prog, text string) []api.List {
	t.Helper()
	s, e := scan.New(p)
	if e != api.OK {
		t.Fatal(e)
	}
	s.Feed([]byte(text))
	return s.Ends()
}

// key writes a state so that equal ones are written alike.
func key(s api.Stream) string {
	return string(stream.Put(nil, s))
}

func y(n int) string {
	return strings.Repeat("y", n)
}

func match(at, rule int, l ...int) api.Found {
	f := api.Found{Kind: api.FMatch, At: at, Rule: rule}
	for i := range f.Caps {
		f.Caps[i] = -1
		if i < len(l) {
			f.Caps[i] = l[i]
		}
	}
	return f
}

func TestNew(t *testing.T) {
	for _, r := range []*rules.Rules{loaded(t), loaded(t, "^ "), loaded(t, "a", "x"), loaded(t, "a", "x", "b", "y", "^ ")} {
		want := api.Stream{Alt: scanned(t, r.Prog(), "")}
		if cont, ok := r.Cont(); ok {
			want.Con = scanned(t, cont, "")
		}
		if s := made(t, r).State(); key(s) != key(want) {
			t.Error(s)
		}
	}
	if x, e := stream.New(nil); x != nil || e != api.ErrArg {
		t.Error(e)
	}
	if x, e := stream.Of(nil, api.Stream{}); x != nil || e != api.ErrArg {
		t.Error(e)
	}
	if s, e := stream.Again(nil, api.Stream{At: 5}); key(s) != key(api.Stream{}) || e != api.ErrArg {
		t.Error(s, e)
	}
	if stream.Well(nil, api.Stream{}) {
		t.Error("Well without rules")
	}
}

func TestExampleRun(t *testing.T) {
	r := loaded(t, "a", "x", "^ ")
	x := made(t, r)
	if l := x.Feed([]byte("ax\n b")); len(l) != 0 {
		t.Error(l)
	}
	if l := x.Feed([]byte("x\nc\n")); !slices.Equal(l, []api.Found{match(0, 0, 1, 2)}) {
		t.Error(l)
	}
	s := x.State()
	if s.At != 9 || s.Line != 9 || !s.Open || s.Event != 7 || s.Size != 1 {
		t.Error(s)
	}
	a, e := stream.Again(r, s)
	if e != api.OK || a.At != 7 || a.Line != 7 || a.Open {
		t.Error(a, e)
	}
}

// TestStates follows the states of a stream.
func TestStates(t *testing.T) {
	with, without := loaded(t, "a", "x+", "b", "y", "^ "), loaded(t, "a", "x+", "b", "y")
	p := with.Prog()
	cont, _ := with.Cont()
	for _, c := range []struct {
		r    *rules.Rules
		text string
		want api.Stream
	}{
		{with, "x\xE2", api.Stream{At: 2, Alt: scanned(t, p, "x\xE2"), Con: scanned(t, cont, "x\xE2")}},
		{without, "x\xE2", api.Stream{At: 2, Alt: scanned(t, p, "x\xE2")}},
		{with, "ax\n", api.Stream{At: 3, Line: 3, Open: true, Size: 2, Ends: ends(t, p, "ax"), Cur: scanned(t, p, "ax\n"), Alt: scanned(t, p, ""), Con: scanned(t, cont, "")}},
		{without, "ax\n", api.Stream{At: 3, Line: 3, Alt: scanned(t, p, "")}},
		{with, "ax\n b", api.Stream{At: 5, Line: 3, Open: true, Size: 2, Ends: ends(t, p, "ax"), Cur: scanned(t, p, "ax\n b"), Alt: scanned(t, p, " b"), Con: scanned(t, cont, " b")}},
		{with, "ax\n y\n", api.Stream{At: 6, Line: 6, Open: true, Size: 5, Ends: ends(t, p, "ax\n y"), Cur: scanned(t, p, "ax\n y\n"), Alt: scanned(t, p, ""), Con: scanned(t, cont, "")}},
		{with, "ax\n y\nx", api.Stream{At: 7, Line: 6, Open: true, Size: 5, Ends: ends(t, p, "ax\n y"), Cur: scanned(t, p, "ax\n y\nx"), Alt: scanned(t, p, "x"), Con: scanned(t, cont, "x")}},
		{with, "ax\n y\nx\n", api.Stream{At: 8, Line: 8, Open: true, Event: 6, Size: 1, Ends: ends(t, p, "x"), Cur: scanned(t, p, "x\n"), Alt: scanned(t, p, ""), Con: scanned(t, cont, "")}},
		{with, "\n", api.Stream{At: 1, Line: 1, Open: true, Ends: ends(t, p, ""), Cur: scanned(t, p, "\n"), Alt: scanned(t, p, ""), Con: scanned(t, cont, "")}},
		{with, "a\xC3\n", api.Stream{At: 3, Line: 3, Open: true, Size: 2, Ends: ends(t, p, "a\xC3"), Cur: scanned(t, p, "a\xC3\n"), Alt: scanned(t, p, ""), Con: scanned(t, cont, "")}},
		{with, "x\n" + y(200), api.Stream{At: 202, Line: 2, Open: true, Size: 1, Ends: ends(t, p, "x"), Cur: scanned(t, p, "x\n"+y(200)), Alt: scanned(t, p, y(200)), Con: scanned(t, cont, y(200))}},
		{with, "x\n" + y(201), api.Stream{At: 203, Line: 2, Long: true, Alt: scanned(t, p, ""), Con: scanned(t, cont, "")}},
		{with, "x\n" + y(500), api.Stream{At: 502, Line: 2, Long: true, Alt: scanned(t, p, ""), Con: scanned(t, cont, "")}},
		{without, y(201), api.Stream{At: 201, Long: true, Alt: scanned(t, p, "")}},
		{with, "x\n" + y(500) + "\n", api.Stream{At: 503, Line: 503, Alt: scanned(t, p, ""), Con: scanned(t, cont, "")}},
		{with, y(201) + "\n x", api.Stream{At: 204, Line: 202, Alt: scanned(t, p, " x"), Con: scanned(t, cont, " x")}},
	} {
		s := after(t, c.r, c.text)
		if key(s) != key(c.want) {
			t.Errorf("after %q: %v, not %v", c.text, s, c.want)
		}
		if !stream.Well(c.r, s) {
			t.Errorf("after %q: not well-formed", c.text)
		}
	}
}

func TestReports(t *testing.T) {
	with, without := loaded(t, "a", "x+", "b", "y|$", "^ "), loaded(t, "a", "x+", "b", "y|$")
	for _, c := range []struct {
		r     *rules.Rules
		parts []string
		want  [][]api.Found
	}{
		{without, []string{"ax", "\n", "y\nxx\n"}, [][]api.Found{nil, {match(0, 0, 1, 2), match(0, 1, 2, 2)}, {match(3, 1, 0, 1), match(5, 0, 0, 2), match(5, 1, 2, 2)}}},
		{with, []string{"ax\n", " y\n", "z", "\n", "\n"}, [][]api.Found{nil, nil, nil, {match(0, 0, 1, 2), match(0, 1, 4, 5)}, {match(6, 1, 1, 1)}}},
		{with, []string{"x\n" + y(200), "y", "y\nx\n", "\n"}, [][]api.Found{nil, {match(0, 0, 0, 1), match(0, 1, 1, 1), {Kind: api.FLong, At: 2}}, nil, {match(205, 0, 0, 1), match(205, 1, 1, 1)}}},
		{without, []string{y(200), "y", "yyy", "\n"}, [][]api.Found{nil, {{Kind: api.FLong}}, nil, nil}},
		{with, []string{"", "\n"}, [][]api.Found{nil, nil}},
	} {
		x := made(t, c.r)
		for i, part := range c.parts {
			if l := x.Feed([]byte(part)); !slices.Equal(l, c.want[i]) {
				t.Errorf("%q, part %d: %v", c.parts, i, l)
			}
		}
	}
}

func TestEventsAreBounded(t *testing.T) {
	r := loaded(t, "a", "y", "^y")
	for _, c := range []struct{ last, event, size int }{{98, 0, 500}, {99, 402, 99}, {97, 0, 499}} {
		s := after(t, r, y(200)+"\n"+y(200)+"\n"+y(c.last)+"\n")
		if !s.Open || s.Event != c.event || s.Size != c.size || !stream.Well(r, s) {
			t.Errorf("a last line of %d bytes: event %d, size %d", c.last, s.Event, s.Size)
		}
	}
}

func TestWell(t *testing.T) {
	r := loaded(t, "a", "x+", "b", "y", "^ ")
	plain := loaded(t, "a", "x+", "b", "y")
	open, closed, long, bare := after(t, r, "z\nxx\n y\n x"), after(t, r, "x"), after(t, r, y(300)), after(t, plain, "z\nx")
	for i, c := range []struct {
		r *rules.Rules
		s api.Stream
	}{{r, open}, {r, closed}, {r, long}, {plain, bare}, {r, after(t, r, "")}, {r, after(t, r, y(200))}, {r, after(t, r, "\n")}} {
		if !stream.Well(c.r, c.s) {
			t.Errorf("case %d is well-formed", i)
		}
		if x, e := stream.Of(c.r, c.s); e != api.OK || key(x.State()) != key(c.s) {
			t.Errorf("case %d: %d", i, e)
		}
	}
	far := closed
	far.At, far.Line = 1<<40, 1<<40-1
	if !stream.Well(r, far) {
		t.Error("a stream far behind is well-formed")
	}
	// What a done list has found may lie anywhere up to the end of the event.
	s := open
	s.Ends = slices.Clone(s.Ends)
	s.Ends[0].Best[1], s.Ends[0].Best[9] = s.Size, 0
	if !stream.Well(r, s) {
		t.Error("positions up to the size")
	}
}

func TestNotWell(t *testing.T) {
	r := loaded(t, "a", "x+", "b", "y", "^ ")
	plain := loaded(t, "a", "x+", "b", "y")
	open, closed, long, bare := after(t, r, "z\nxx\n y\n x"), after(t, r, "x"), after(t, r, y(300)), after(t, plain, "z\nx")
	p := r.Prog()
	far := closed
	far.At, far.Line = 1<<40, 1<<40-1
	for i, c := range []struct {
		r *rules.Rules
		s api.Stream
		f func(s *api.Stream)
	}{
		{plain, open, func(s *api.Stream) {}}, {r, bare, func(s *api.Stream) {}}, {loaded(t, "a", "x+", "^ "), open, func(s *api.Stream) {}},
		{r, closed, func(s *api.Stream) { *s = api.Stream{} }},
		{r, closed, func(s *api.Stream) { s.Line = 1 }}, {r, closed, func(s *api.Stream) { s.Line = -1 }}, {r, closed, func(s *api.Stream) { s.At = 2 }}, {r, closed, func(s *api.Stream) { s.At, s.Line = -1, -2 }}, {r, closed, func(s *api.Stream) { s.At, s.Line = 0, 1 }},
		{r, far, func(s *api.Stream) { s.At++; s.Line++ }}, {r, closed, func(s *api.Stream) { s.At, s.Line = math.MaxInt, math.MaxInt-1 }}, {r, closed, func(s *api.Stream) { s.At, s.Line = math.MaxInt, math.MinInt }},
		{r, closed, func(s *api.Stream) { s.Long = true }}, {r, long, func(s *api.Stream) { s.Long = false }}, {r, long, func(s *api.Stream) { s.At = 200 }}, {r, long, func(s *api.Stream) { s.At = 201; s.Line = 1 }}, {r, long, func(s *api.Stream) { s.Alt = scanned(t, p, "x") }},
		{r, closed, func(s *api.Stream) { s.Alt = scanned(t, p, "") }}, {r, closed, func(s *api.Stream) { s.Alt = scanned(t, p, "xx") }}, {r, closed, func(s *api.Stream) { s.Alt = scanned(t, p, "x\xE2") }}, {r, closed, func(s *api.Stream) { s.Alt = api.Scan{} }},
		{r, closed, func(s *api.Stream) { s.Con = api.Scan{} }}, {r, closed, func(s *api.Stream) { s.Con = s.Alt }}, {r, closed, func(s *api.Stream) { s.Con.Place = 0 }}, {r, closed, func(s *api.Stream) { s.Con.Held = []byte{0xE2} }},
		{plain, bare, func(s *api.Stream) { s.Con = s.Alt }}, {plain, bare, func(s *api.Stream) { s.Con.Place = 1 }}, {plain, bare, func(s *api.Stream) { s.Con.Held = []byte{0xE2} }},
		{r, closed, func(s *api.Stream) { s.Event = 1 }}, {r, closed, func(s *api.Stream) { s.Size = 1 }}, {r, closed, func(s *api.Stream) { s.Ends = open.Ends }}, {r, closed, func(s *api.Stream) { s.Cur = s.Alt }}, {r, closed, func(s *api.Stream) { s.Open = true }},
		{r, open, func(s *api.Stream) { s.Open = false }}, {r, open, func(s *api.Stream) { s.Event++ }}, {r, open, func(s *api.Stream) { s.Size++ }}, {r, open, func(s *api.Stream) { s.Size-- }}, {r, open, func(s *api.Stream) { s.Event, s.Size = -1, s.Size+s.Event+1 }},
		{r, open, func(s *api.Stream) { s.Event, s.Size = s.Line, -1 }}, {r, open, func(s *api.Stream) { s.Event = math.MaxInt }}, {r, open, func(s *api.Stream) { s.Event, s.Size = math.MinInt, math.MaxInt }},
		{r, open, func(s *api.Stream) { s.Ends = nil }}, {r, open, func(s *api.Stream) { s.Ends = s.Ends[:1] }}, {r, open, func(s *api.Stream) { s.Ends = append(slices.Clone(s.Ends), s.Ends[0]) }},
		{r, open, func(s *api.Stream) {
			s.Ends = slices.Clone(s.Ends)
			s.Ends[0].Threads = []api.Thread{{Caps: s.Ends[0].Best}}
		}},
		{r, open, func(s *api.Stream) { s.Ends = slices.Clone(s.Ends); s.Ends[0].Best[1] = s.Size + 1 }}, {r, open, func(s *api.Stream) { s.Ends = slices.Clone(s.Ends); s.Ends[0].Best[1] = -2 }}, {r, open, func(s *api.Stream) { s.Ends = slices.Clone(s.Ends); s.Ends[0].Done = false }},
		{r, open, func(s *api.Stream) { s.Cur = api.Scan{} }}, {r, open, func(s *api.Stream) { s.Cur = s.Alt }}, {r, open, func(s *api.Stream) { s.Cur.Place++ }}, {r, open, func(s *api.Stream) { s.Cur = s.Con }},
		{r, long, func(s *api.Stream) {
			s.Open, s.Line, s.At, s.Ends, s.Cur = true, 1, 301, ends(t, p, ""), scanned(t, p, "\n")
		}},
		{plain, bare, func(s *api.Stream) {
			s.Open, s.Size, s.Ends, s.Cur = true, 1, ends(t, p, "z"), scanned(t, p, "z\nx")
		}},
	} {
		s := c.s
		c.f(&s)
		if stream.Well(c.r, s) {
			t.Errorf("case %d is not well-formed: %v", i, s)
		}
		if x, e := stream.Of(c.r, s); x != nil || e != api.ErrForm {
			t.Errorf("case %d: %d", i, e)
		}
	}
}

func TestWellSizes(t *testing.T) {
	r := loaded(t, "a", "x+", "b", "y", "^ ")
	big := after(t, loaded(t, "a", "y", "^y"), y(200)+"\n"+y(200)+"\n"+y(98)+"\n")
	if big.Size != 500 || !stream.Well(loaded(t, "a", "y", "^y"), big) {
		t.Error("an event of 500 bytes")
	}
	// Sizes that cannot be, with all else as it would have to be.
	q := r.Prog()
	none := slices.Clone(ends(t, q, ""))
	for size, want := range map[int]bool{500: true, 501: false, -1: false, 0: true} {
		s := after(t, r, "x")
		s.Event, s.Size, s.Open, s.Ends = 3, size, true, none
		s.Line = s.Event + size + 1
		s.At = s.Line + 1
		s.Cur = scanned(t, q, y(size+2))
		if stream.Well(r, s) != want {
			t.Errorf("an event of %d bytes: %v", size, !want)
		}
	}
}

func TestAgain(t *testing.T) {
	r, other := loaded(t, "a", "x+", "^ "), loaded(t, "b", "y", "c", "z")
	for _, c := range []struct {
		text string
		at   int
	}{{"", 0}, {"ab", 0}, {"ab\n", 0}, {"ab\nc", 0}, {"ab\nc\n d\n e", 3}, {y(300), 0}, {"a\n" + y(300), 2}, {"a\n" + y(300) + "\nb", 303}} {
		s := after(t, r, c.text)
		for _, q := range []*rules.Rules{r, other} {
			want := after(t, q, "")
			want.At, want.Line = c.at, c.at
			got, e := stream.Again(q, s)
			if e != api.OK || key(got) != key(want) || !stream.Well(q, got) {
				t.Errorf("after %q: %v, %d", c.text, got, e)
			}
		}
	}
	if got, e := stream.Again(r, api.Stream{Event: 7, Line: 9, At: 12}); e != api.OK || got.At != 9 || got.Line != 9 {
		t.Error(got, e)
	}
}

func TestPut(t *testing.T) {
	r := loaded(t, "a", "x+", "^ ")
	s := after(t, r, "z\nxx\n y\n x\xE2")
	want := wire.Flag(wire.Flag(wire.Num(wire.Num([]byte("q"), s.At), s.Line), s.Long), s.Open)
	want = state.PutLists(wire.Num(wire.Num(want, s.Event), s.Size), s.Ends)
	want = state.PutScan(state.PutScan(state.PutScan(want, s.Cur), s.Alt), s.Con)
	b := append(make([]byte, 0, 2000), 'q')
	if got := stream.Put(b, s); !bytes.Equal(got, want) || !bytes.Equal(b[:2000][1:], make([]byte, 1999)) {
		t.Errorf("%x, not %x", got, want)
	}
	if got := stream.Put(nil, api.Stream{At: -1, Line: 300, Long: true}); string(got) != "\x00\x02\x01\x2c\x01\x01\x00\x00\x00\x00"+strings.Repeat("\x00\x00\x00", 3) {
		t.Errorf("%x", got)
	}
	enc := stream.Put(nil, s)
	rd := wire.Read(append(slices.Clip(enc), "rest"...))
	if got := stream.Get(rd); key(got) != string(enc) || rd.At() != len(enc) || rd.Err() != api.OK || !stream.Well(r, got) {
		t.Error(got, rd.Err())
	}
	for k := range enc {
		rd := wire.Read(enc[:k])
		if stream.Get(rd); rd.Err() != api.ErrShort {
			t.Errorf("%d bytes: %d", k, rd.Err())
		}
	}
}

// TestLikeTheEvents holds what streams report, however they are fed and suspended, against the events of the whole text.
func TestLikeTheEvents(t *testing.T) {
	seed := uint32(1)
	roll := func(n int) int {
		seed = seed*1664525 + 1013904223
		return int(seed>>8) % n
	}
	for _, r := range []*rules.Rules{
		loaded(t, "a", "(x)|y$", "b", "^ ?(y)+", "c", "\n x"), loaded(t, "a", "(x)|y$", "b", "^ ?(y)+?", "c", "\n *(x)", "d", "\uFFFD$", "^ "), loaded(t, "a", "x\n", "b", "$", "^$|^y"), loaded(t, "y"), loaded(t), loaded(t, "a", "é", "é$"),
	} {
		for range 50 {
			text := ""
			for range roll(14) {
				text += []string{"x", " ", "\n", "\n ", "\n y", y(60), y(150), y(199), "\xE2", "\n\n", "é", "\xC3\n"}[roll(12)]
			}
			want := event.Finds(r, []byte(text))
			whole, x := made(t, r), made(t, r)
			if l := whole.Feed([]byte(text)); !slices.Equal(l, want) {
				t.Fatalf("%q: %v, not %v", text, l, want)
			}
			var got []api.Found
			for rest := text; rest != ""; {
				n := 1 + roll(min(len(rest), []int{1, 3, 500}[roll(3)]))
				got = append(got, x.Feed([]byte(rest[:n]))...)
				rest = rest[n:]
				x = resumed(t, r, x, text[:len(text)-len(rest)])
			}
			if !slices.Equal(got, want) {
				t.Fatalf("%q in parts: %v, not %v", text, got, want)
			}
			if key(x.State()) != key(whole.State()) {
				t.Fatalf("%q: the states differ", text)
			}
			_, open, some := event.Spans(r, []byte(text))
			if s := x.State(); s.Open != some || s.Event != open.From || s.Size != open.To-open.From || s.At != len(text) {
				t.Fatalf("%q: %v, not %v", text, s, open)
			}
		}
	}
}

// resumed returns a stream that goes on from the bytes of another one.
func resumed(t *testing.T, r *rules.Rules, x *stream.Stream, text string) *stream.Stream {
	t.Helper()
	s := x.State()
	if !stream.Well(r, s) {
		t.Fatalf("after %q: %v is not well-formed", text, s)
	}
	rd := wire.Read(stream.Put(nil, s))
	s = stream.Get(rd)
	x, e := stream.Of(r, s)
	if rd.End() != api.OK || e != api.OK {
		t.Fatalf("after %q: %d, %d", text, rd.Err(), e)
	}
	return x
}

func TestMemory(t *testing.T) {
	r := loaded(t, "a", "x+", "^ ")
	text := "z\nxx\n y\n x\xE2"
	x := made(t, r)
	b := []byte(text)
	x.Feed(b)
	s := x.State()
	want := key(s)
	other, _ := stream.Of(r, s)
	copy(b, "??????")
	s.Cur.Held[0], s.Alt.Held[0], s.Con.Held[0] = 0, 0, 0
	for _, l := range [][]api.List{s.Ends, s.Cur.Lists, s.Alt.Lists, s.Con.Lists} {
		for i := range l {
			for j := range l[i].Threads {
				l[i].Threads[j] = api.Thread{}
			}
			l[i] = api.List{}
		}
	}
	if key(x.State()) != want || key(other.State()) != want {
		t.Error("memory is shared")
	}
}
