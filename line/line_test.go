package line_test

import (
	"math"
	"slices"
	"strings"
	"testing"

	"spoor/api"
	"spoor/line"
)

func classes(s *line.Splitter, b string) []int {
	var l []int
	for i := range len(b) {
		l = append(l, s.Byte(b[i]))
	}
	return l
}

func TestClassesAreNumbered(t *testing.T) {
	if line.In != 1 || line.End != 2 || line.Long != 3 || line.Skip != 4 || line.Over != 5 {
		t.Error(line.In, line.End, line.Long, line.Skip, line.Over)
	}
}

func TestNew(t *testing.T) {
	s := line.New()
	if s.Len() != 0 || s.Long() {
		t.Error(s.Len(), s.Long())
	}
	if l := classes(s, "a\nb"); !slices.Equal(l, []int{line.In, line.End, line.In}) || s.Len() != 1 || s.Long() {
		t.Error(l, s.Len())
	}
	if l := classes(line.New(), "\n\n"); !slices.Equal(l, []int{line.End, line.End}) {
		t.Error(l)
	}
}

func TestOtherBytesEndNoLine(t *testing.T) {
	for c := range 256 {
		s := line.New()
		s.Byte('a')
		if c == 10 {
			continue
		}
		if k := s.Byte(byte(c)); k != line.In || s.Len() != 2 {
			t.Errorf("byte %d: %d", c, k)
		}
	}
}

func TestLongLine(t *testing.T) {
	s := line.New()
	for i := range api.MaxLine {
		if k := s.Byte('a'); k != line.In || s.Len() != i+1 || s.Long() {
			t.Fatalf("byte %d: %d", i, k)
		}
	}
	for _, c := range []struct {
		c    byte
		k, n int
		long bool
	}{
		{'a', line.Long, 0, true}, {'a', line.Skip, 0, true}, {0, line.Skip, 0, true}, {'\n', line.Over, 0, false}, {'a', line.In, 1, false}, {'\n', line.End, 0, false},
	} {
		if k := s.Byte(c.c); k != c.k || s.Len() != c.n || s.Long() != c.long {
			t.Errorf("byte %d: %d, length %d, long %v", c.c, k, s.Len(), s.Long())
		}
	}
}

func TestLineOfMaxLineBytesEnds(t *testing.T) {
	s := line.New()
	classes(s, strings.Repeat("a", api.MaxLine))
	if k := s.Byte('\n'); k != line.End || s.Len() != 0 || s.Long() {
		t.Error(k)
	}
}

func TestSkipsAnyNumber(t *testing.T) {
	s := line.New()
	classes(s, strings.Repeat("a", api.MaxLine+1))
	for range 3 * api.MaxLine {
		if k := s.Byte('b'); k != line.Skip || !s.Long() || s.Len() != 0 {
			t.Fatal(k)
		}
	}
}

func TestOf(t *testing.T) {
	for _, n := range []int{math.MinInt, -1, api.MaxLine + 1, math.MaxInt} {
		for _, long := range []bool{false, true} {
			if s, e := line.Of(n, long); s != nil || e != api.ErrArg {
				t.Error(n, long, e)
			}
		}
	}
	for _, n := range []int{1, 3, api.MaxLine} {
		if s, e := line.Of(n, true); s != nil || e != api.ErrArg {
			t.Error(n, e)
		}
	}
	for n := range api.MaxLine + 1 {
		s, e := line.Of(n, false)
		if e != api.OK || s.Len() != n || s.Long() {
			t.Fatal(n, e)
		}
		want := line.In
		if n == api.MaxLine {
			want = line.Long
		}
		if k := s.Byte('a'); k != want {
			t.Error(n, k)
		}
	}
	s, e := line.Of(0, true)
	if e != api.OK || s.Len() != 0 || !s.Long() {
		t.Fatal(e)
	}
	if l := classes(s, "a\na"); !slices.Equal(l, []int{line.Skip, line.Over, line.In}) {
		t.Error(l)
	}
}

func TestASplitterGoesOn(t *testing.T) {
	text := strings.Repeat("ab\n\n"+strings.Repeat("y", 199)+"\n"+strings.Repeat("z", 200)+"\n"+strings.Repeat("w", 202)+"\n", 2)
	a := line.New()
	for i := range len(text) {
		b, e := line.Of(a.Len(), a.Long())
		if e != api.OK {
			t.Fatal(e)
		}
		if k := a.Byte(text[i]); k != b.Byte(text[i]) || a.Len() != b.Len() || a.Long() != b.Long() {
			t.Fatal("another splitter goes on differently", i)
		}
	}
}

func TestCut(t *testing.T) {
	full, over := strings.Repeat("y", api.MaxLine), strings.Repeat("z", api.MaxLine+1)
	for _, c := range []struct {
		b string
		l []string
	}{
		{"a\n\nbc\nd", []string{"a", "", "bc"}},
		{"", nil},
		{"abc", nil},
		{"\n", []string{""}},
		{"a\r\n\x00\xff\n", []string{"a\r", "\x00\xff"}},
		{full + "\n", []string{full}},
		{over + "\n", nil},
		{"a\n" + over + "\nb\n", []string{"a", "b"}},
		{over + over + over + "\n\nb\n" + over, []string{"", "b"}},
		{full + "\n" + full + "\n" + full, []string{full, full}},
	} {
		if l := line.Cut([]byte(c.b)); !slices.Equal(l, c.l) {
			t.Errorf("Cut(%q) = %q", c.b, l)
		}
	}
}

func TestCutKeepsNothing(t *testing.T) {
	b := []byte("ab\ncd\n")
	l := line.Cut(b)
	copy(b, "xxxxxx")
	if !slices.Equal(l, []string{"ab", "cd"}) {
		t.Error(l)
	}
}
