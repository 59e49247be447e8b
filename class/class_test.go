package class_test

import (
	"math"
	"slices"
	"testing"

	"spoor/api"
	"spoor/class"
)

// of makes ranges of pairs.
func of(l ...rune) []api.Range {
	var out []api.Range
	for i := 0; i+1 < len(l); i += 2 {
		out = append(out, api.Range{Lo: l[i], Hi: l[i+1]})
	}
	return out
}

func TestMake(t *testing.T) {
	for _, c := range []struct{ l, want []api.Range }{
		{nil, nil},
		{of('c', 'f', 'a', 'b', 'x', 'w', 'e', 'k'), of('a', 'k')},
		{of('b', 'a'), nil},
		{of('a', 'a'), of('a', 'a')},
		{of('a', 'a', 'a', 'a'), of('a', 'a')},
		{of('a', 'a', 'b', 'b'), of('a', 'b')},
		{of('a', 'a', 'c', 'c'), of('a', 'a', 'c', 'c')},
		{of('c', 'c', 'a', 'a'), of('a', 'a', 'c', 'c')},
		{of('a', 'z', 'c', 'd'), of('a', 'z')},
		{of('c', 'd', 'a', 'z', 'm', 'n'), of('a', 'z')},
		{of('a', 'c', 'a', 'k', 'a', 'b'), of('a', 'k')},
		{of(-5, 2, 0xD000, 0xE001, 0x10FFFF, 0x200000), of(0, 2, 0xD000, 0xD7FF, 0xE000, 0xE001, 0x10FFFF, 0x10FFFF)},
		{of(0xD800, 0xDFFF), nil},
		{of(0xD7FF, 0xD7FF, 0xE000, 0xE000), of(0xD7FF, 0xD7FF, 0xE000, 0xE000)},
		{of(0xD7FF, 0xD800, 0xDFFF, 0xE000), of(0xD7FF, 0xD7FF, 0xE000, 0xE000)},
		{of(math.MinInt32, math.MaxInt32), of(0, 0xD7FF, 0xE000, 0x10FFFF)},
		{of(math.MaxInt32, math.MinInt32), nil},
		{of(math.MinInt32, -1, 0x110000, math.MaxInt32), nil},
		{of(-1, 0, 0x10FFFF, 0x110000), of(0, 0, 0x10FFFF, 0x10FFFF)},
		{of(0x10FFFE, 0x10FFFE, 0x10FFFF, math.MaxInt32), of(0x10FFFE, 0x10FFFF)},
	} {
		got := class.Make(c.l...)
		if !slices.Equal(got, c.want) {
			t.Errorf("Make(%v) = %v", c.l, got)
		}
		if again := class.Make(got...); !slices.Equal(again, got) {
			t.Errorf("Make again of %v: %v", got, again)
		}
		if !class.Right(got) || class.Right(c.l) != slices.Equal(c.l, c.want) {
			t.Errorf("Right of %v or of %v", got, c.l)
		}
	}
}

func TestHas(t *testing.T) {
	l := of('x', 'z', 'a', 'k', 'q', 'p', -9, -7, 0xD800, 0xD900)
	for _, c := range []struct {
		r    rune
		want bool
	}{
		{'a', true}, {'b', true}, {'k', true}, {'l', false}, {'w', false}, {'x', true}, {'z', true}, {'{', false}, {'p', false}, {'q', false},
		{-8, true}, {-9, true}, {-10, false}, {-6, false}, {0xD850, true}, {0xD901, false}, {math.MinInt32, false}, {math.MaxInt32, false}, {0, false},
	} {
		if class.Has(l, c.r) != c.want {
			t.Errorf("Has(%d) is not %v", c.r, c.want)
		}
	}
	if class.Has(nil, 'a') || !class.Has(of(math.MinInt32, math.MaxInt32), math.MaxInt32) {
		t.Error("Has")
	}
}

func TestNot(t *testing.T) {
	for _, c := range []struct{ l, want []api.Range }{
		{nil, of(0, 0xD7FF, 0xE000, 0x10FFFF)},
		{of('b', 'a'), of(0, 0xD7FF, 0xE000, 0x10FFFF)},
		{of(0, 0x10FFFF), nil},
		{of(0, 0xD7FF, 0xE000, 0x10FFFF), nil},
		{of(math.MinInt32, math.MaxInt32), nil},
		{of('a', 'z'), of(0, 'a'-1, 'z'+1, 0xD7FF, 0xE000, 0x10FFFF)},
		{of(0, 5), of(6, 0xD7FF, 0xE000, 0x10FFFF)},
		{of(0xD000, 0xE001), of(0, 0xCFFF, 0xE002, 0x10FFFF)},
		{of(0xD7FF, 0xD7FF), of(0, 0xD7FE, 0xE000, 0x10FFFF)},
		{of(0xE000, 0xE000), of(0, 0xD7FF, 0xE001, 0x10FFFF)},
		{of(0x10FFFF, 0x10FFFF), of(0, 0xD7FF, 0xE000, 0x10FFFE)},
		{of('x', 'y', 'a', 'b', 'b', 'd'), of(0, 'a'-1, 'e', 'w', 'z', 0xD7FF, 0xE000, 0x10FFFF)},
	} {
		if got := class.Not(c.l); !slices.Equal(got, c.want) {
			t.Errorf("Not(%v) = %v", c.l, got)
		}
		if got := class.Not(class.Not(c.l)); !slices.Equal(got, class.Make(c.l...)) {
			t.Errorf("Not of Not(%v) = %v", c.l, got)
		}
	}
}

func TestBoth(t *testing.T) {
	for _, c := range []struct{ a, b, want []api.Range }{
		{of('a', 'k'), of('g', 'z'), of('g', 'k')},
		{of('g', 'z'), of('a', 'k'), of('g', 'k')},
		{nil, of('a', 'z'), nil},
		{of('a', 'z'), nil, nil},
		{of('a', 'b'), of('c', 'd'), nil},
		{of('a', 'b'), of('b', 'd'), of('b', 'b')},
		{of('a', 'd', 'f', 'i'), of('c', 'g', 'i', 'z'), of('c', 'd', 'f', 'g', 'i', 'i')},
		{of(-5, 5), of(-5, 5), of(0, 5)},
		{of(0xD000, 0xF000), of(0xD7FF, 0xE000), of(0xD7FF, 0xD7FF, 0xE000, 0xE000)},
		{of(math.MinInt32, math.MaxInt32), of('x', 'x'), of('x', 'x')},
		{of('c', 'b', 'm', 'n', 'a', 'e'), of('n', 'z', 'd', 'e'), of('d', 'e', 'n', 'n')},
	} {
		if got := class.Both(c.a, c.b); !slices.Equal(got, c.want) {
			t.Errorf("Both(%v, %v) = %v", c.a, c.b, got)
		}
	}
}

func TestRight(t *testing.T) {
	for _, l := range [][]api.Range{
		nil, of(0, 0), of('a', 'z'), of('a', 'b', 'd', 'd'), of(0, 0xD7FF, 0xE000, 0x10FFFF), of(0x10FFFF, 0x10FFFF),
	} {
		if !class.Right(l) {
			t.Errorf("%v is right", l)
		}
	}
	for _, l := range [][]api.Range{
		of('b', 'a'), of(-1, 5), of(0, 0x110000), of(0, 0x10FFFF), of(0xD800, 0xD800), of(0xD7FF, 0xE000), of(0xDFFF, 0xE000),
		of('a', 'b', 'c', 'd'), of('a', 'b', 'b', 'd'), of('d', 'e', 'a', 'b'), of('a', 'b', 'a', 'b'), of('a', 'z', 'c', 'd'),
		of('a', 'b', 'e', 'd'), of(math.MinInt32, math.MaxInt32), of(5, math.MaxInt32), of(math.MaxInt32, math.MaxInt32, 0, 0),
	} {
		if class.Right(l) {
			t.Errorf("%v is not right", l)
		}
	}
}

// bounds are numbers at which something changes.
var bounds = []rune{math.MinInt32, -2, -1, 0, 1, 2, 'a', 0xD7FE, 0xD7FF, 0xD800, 0xD801, 0xDFFE, 0xDFFF, 0xE000, 0xE001, 0x10FFFE, 0x10FFFF, 0x110000, math.MaxInt32}

func isRune(r rune) bool {
	return r >= 0 && r <= 0x10FFFF && (r < 0xD800 || r > 0xDFFF)
}

// TestSets asks the sets for all bounds: whether they have the runes that the ranges have, by the fewest ranges.
func TestSets(t *testing.T) {
	seed := uint32(1)
	random := func() []api.Range {
		var l []api.Range
		for range seed >> 28 % 6 {
			seed = seed*1664525 + 1013904223
			a := bounds[seed>>8%uint32(len(bounds))]
			b := bounds[seed>>16%uint32(len(bounds))]
			l = append(l, api.Range{Lo: a, Hi: b})
		}
		seed = seed*1664525 + 1013904223
		return l
	}
	for range 5000 {
		a, b := random(), random()
		m, n, both := class.Make(a...), class.Not(a), class.Both(a, b)
		for _, r := range bounds {
			in := isRune(r) && class.Has(a, r)
			if class.Has(m, r) != in || class.Has(n, r) != (isRune(r) && !in) || class.Has(both, r) != (in && class.Has(b, r)) {
				t.Fatal(a, b, r)
			}
		}
		for _, l := range [][]api.Range{m, n, both} {
			if !class.Right(l) || !slices.Equal(class.Make(l...), l) {
				t.Fatal(a, b, l)
			}
		}
		if class.Right(a) != slices.Equal(m, a) {
			t.Fatal("Right", a)
		}
	}
}

func TestMemory(t *testing.T) {
	a := append(make([]api.Range, 0, 9), of('x', 'z', 'a', 'c')...)
	b := append(make([]api.Range, 0, 9), of('b', 'y')...)
	for _, l := range [][]api.Range{class.Make(a...), class.Not(a), class.Both(a, b), class.Both(b, a)} {
		for i := range l[:cap(l)] {
			l[:cap(l)][i] = api.Range{Lo: 1, Hi: 1}
		}
	}
	class.Right(a)
	class.Has(a, 'q')
	zero := make([]api.Range, 9)
	if !slices.Equal(a, of('x', 'z', 'a', 'c')) || !slices.Equal(a[:9][2:], zero[2:]) || !slices.Equal(b, of('b', 'y')) || !slices.Equal(b[:9][1:], zero[1:]) {
		t.Error("the arguments were changed")
	}
}
