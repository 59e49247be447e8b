package yard_test

import (
	"math"
	"slices"
	"strings"
	"testing"

	"spoor/api"
	"spoor/yard"
)

// made makes a yard with files that contain their names.
func made(t *testing.T, names ...string) *yard.Yard {
	t.Helper()
	y := yard.New()
	for _, name := range names {
		if e := y.Create(name); e != api.OK {
			t.Fatal(name, e)
		}
		if e := y.Append(name, []byte(name)); e != api.OK {
			t.Fatal(name, e)
		}
	}
	return y
}

// is compares the files of a yard.
func is(t *testing.T, y *yard.Yard, want ...api.File) {
	t.Helper()
	if l := y.Files(); !slices.Equal(l, want) {
		t.Errorf("%v, not %v", l, want)
	}
}

// text returns all bytes of a file.
func text(t *testing.T, y *yard.Yard, ino int) string {
	t.Helper()
	b, e := y.Read(ino, 0, api.MaxFile)
	if e != api.OK {
		t.Fatal(ino, e)
	}
	return string(b)
}

func TestExampleRun(t *testing.T) {
	y := yard.New()
	if len(y.Files()) != 0 {
		t.Error(y.Files())
	}
	y.Create("a")
	y.Create("b")
	y.Append("a", []byte("xyz"))
	if e := y.Rename("a", "b"); e != api.OK {
		t.Error(e)
	}
	is(t, y, api.File{Ino: 1, Name: "b", Size: 3})
	y.Create("a")
	is(t, y, api.File{Ino: 1, Name: "b", Size: 3}, api.File{Ino: 2, Name: "a"})
	if b, e := y.Read(1, 1, 9); string(b) != "yz" || e != api.OK || y.Taken(1) != 2 {
		t.Error(b, e)
	}
	if e := y.Cut("b", 4); e != api.ErrArg {
		t.Error(e)
	}
	if b, e := y.Read(3, 0, 1); len(b) != 0 || e != api.ErrNone {
		t.Error(b, e)
	}
}

func TestCreate(t *testing.T) {
	y := made(t, "a", "b", "c")
	y.Remove("b")
	y.Remove("a")
	for i, c := range []struct {
		name string
		ino  int
	}{{"x", 1}, {"y", 2}, {"z", 4}} {
		y.Create(c.name)
		if f, ok := y.Find(c.name); f != (api.File{Ino: c.ino, Name: c.name}) || !ok {
			t.Error(i, f, ok)
		}
	}
	for y = made(t); len(y.Files()) < api.MaxYard; {
		if e := y.Create(strings.Repeat("n", 1+len(y.Files()))); e != api.OK {
			t.Fatal(e)
		}
	}
	before := y.Files()
	for name, want := range map[string]api.Errno{"m": api.ErrFull, "n": api.ErrTaken, "": api.ErrPath, "a b": api.ErrPath} {
		if e := y.Create(name); e != want {
			t.Errorf("%q: %d", name, e)
		}
	}
	if !slices.Equal(y.Files(), before) {
		t.Error(y.Files())
	}
}

func TestNames(t *testing.T) {
	for c := range 256 {
		want := api.OK
		if c < 33 || c > 126 {
			want = api.ErrPath
		}
		name := string([]byte{'a', byte(c)})
		y := made(t, "q")
		if e := y.Create(name); e != want {
			t.Errorf("Create(%q): %d", name, e)
		}
		y = made(t, "q")
		if e := y.Rename("q", name); e != want {
			t.Errorf("Rename to %q: %d", name, e)
		}
	}
	long := strings.Repeat("n", api.MaxName)
	y := made(t, long)
	if y.Create(long+"n") != api.ErrPath || y.Create("") != api.ErrPath || y.Rename(long, long+"n") != api.ErrPath || y.Rename(long, "") != api.ErrPath {
		t.Error("names that cannot be")
	}
	// The first error in order.
	if y.Rename("none", "") != api.ErrPath || y.Rename("none", "x") != api.ErrNone || y.Rename("", "x") != api.ErrNone || y.Append("", nil) != api.ErrNone || y.Cut("a b", 0) != api.ErrNone || y.Remove("") != api.ErrNone {
		t.Error("names that no file has")
	}
	is(t, y, api.File{Ino: 1, Name: long, Size: 32})
}

func TestAppend(t *testing.T) {
	y := made(t, "a", "b")
	y.Append("a", []byte("12"))
	y.Append("a", nil)
	if text(t, y, 1) != "a12" || text(t, y, 2) != "b" {
		t.Error(text(t, y, 1))
	}
	if e := y.Append("c", []byte("x")); e != api.ErrNone {
		t.Error(e)
	}
	full := make([]byte, api.MaxFile)
	if e := y.Append("b", full); e != api.ErrFull {
		t.Error(e)
	}
	if e := y.Append("b", full[1:]); e != api.OK {
		t.Error(e)
	}
	if e := y.Append("b", full[:1]); e != api.ErrFull || y.Append("b", nil) != api.OK {
		t.Error(e)
	}
	is(t, y, api.File{Ino: 1, Name: "a", Size: 3}, api.File{Ino: 2, Name: "b", Size: api.MaxFile})
}

func TestRename(t *testing.T) {
	y := made(t, "a", "b", "c")
	if e := y.Rename("c", "a"); e != api.OK {
		t.Error(e)
	}
	is(t, y, api.File{Ino: 2, Name: "b", Size: 1}, api.File{Ino: 3, Name: "a", Size: 1})
	if text(t, y, 3) != "c" {
		t.Error("another content")
	}
	if e := y.Rename("a", "a"); e != api.OK {
		t.Error(e)
	}
	is(t, y, api.File{Ino: 2, Name: "b", Size: 1}, api.File{Ino: 3, Name: "a", Size: 1})
	if e := y.Rename("c", "b"); e != api.ErrNone {
		t.Error(e)
	}
	is(t, y, api.File{Ino: 2, Name: "b", Size: 1}, api.File{Ino: 3, Name: "a", Size: 1})
	y.Create("new")
	if f, _ := y.Find("new"); f.Ino != 1 {
		t.Error(f)
	}
}

func TestCut(t *testing.T) {
	y := made(t, "abc", "d")
	for _, n := range []int{-1, 4, math.MinInt, math.MaxInt} {
		if e := y.Cut("abc", n); e != api.ErrArg {
			t.Error(n, e)
		}
	}
	if y.Cut("x", -1) != api.ErrNone {
		t.Error("a file that is not there")
	}
	for _, n := range []int{3, 2, 2, 0, 0} {
		if e := y.Cut("abc", n); e != api.OK || text(t, y, 1) != "abc"[:n] {
			t.Error(n, e)
		}
	}
	y.Append("abc", []byte("z"))
	if text(t, y, 1) != "z" || text(t, y, 2) != "d" {
		t.Error(text(t, y, 1))
	}
}

func TestRemove(t *testing.T) {
	y := made(t, "a", "b")
	if y.Remove("a") != api.OK || y.Remove("a") != api.ErrNone {
		t.Error("Remove")
	}
	is(t, y, api.File{Ino: 2, Name: "b", Size: 1})
	if f, ok := y.Find("a"); f != (api.File{}) || ok {
		t.Error(f, ok)
	}
}

func TestRead(t *testing.T) {
	y := made(t, "abcdef")
	for _, c := range []struct {
		at, n int
		want  string
	}{{0, 6, "abcdef"}, {0, 0, ""}, {2, 3, "cde"}, {2, 9, "cdef"}, {6, 1, ""}, {7, 1, ""}, {math.MaxInt, math.MaxInt, ""}, {1, math.MaxInt, "bcdef"}} {
		before := y.Taken(1)
		if b, e := y.Read(1, c.at, c.n); string(b) != c.want || e != api.OK || y.Taken(1) != before+len(c.want) {
			t.Errorf("Read(1, %d, %d): %q, %d", c.at, c.n, b, e)
		}
	}
	before := y.Taken(1)
	for _, c := range []struct {
		ino, at, n int
		e          api.Errno
	}{{1, -1, 1, api.ErrArg}, {1, 1, -1, api.ErrArg}, {1, math.MinInt, math.MinInt, api.ErrArg}, {2, 0, 1, api.ErrNone}, {2, -1, -1, api.ErrNone}, {0, 0, 1, api.ErrNone}, {-1, 0, 1, api.ErrNone}, {math.MaxInt, 0, 1, api.ErrNone}} {
		if b, e := y.Read(c.ino, c.at, c.n); len(b) != 0 || e != c.e {
			t.Errorf("Read(%d, %d, %d): %q, %d", c.ino, c.at, c.n, b, e)
		}
	}
	if y.Taken(1) != before || y.Taken(2) != 0 || y.Taken(0) != 0 || y.Taken(-1) != 0 {
		t.Error("what was refused was counted")
	}
}

func TestTakenGoesOnWithTheNumber(t *testing.T) {
	y := made(t, "abc", "de")
	y.Read(1, 0, 3)
	y.Read(2, 1, 1)
	y.Remove("abc")
	if y.Taken(1) != 3 || y.Taken(2) != 1 {
		t.Error(y.Taken(1), y.Taken(2))
	}
	y.Create("new")
	y.Append("new", []byte("xy"))
	y.Read(1, 0, 9)
	if y.Taken(1) != 5 {
		t.Error(y.Taken(1))
	}
	y.Rename("new", "old")
	y.Read(1, 1, 9)
	if y.Taken(1) != 6 {
		t.Error(y.Taken(1))
	}
}

func TestFindTellsNames(t *testing.T) {
	y := made(t, "a", "bc")
	if f, ok := y.Find("bc"); f != (api.File{Ino: 2, Name: "bc", Size: 2}) || !ok {
		t.Error(f, ok)
	}
	for _, name := range []string{"", "b", "A", "bcd"} {
		if f, ok := y.Find(name); f != (api.File{}) || ok {
			t.Error(name, f, ok)
		}
	}
}

func TestMemory(t *testing.T) {
	y := made(t, "abc")
	p := append(make([]byte, 0, 9), "de"...)
	y.Append("abc", p)
	y.Append("abc", []byte("f"))
	p[0] = 'x'
	b, _ := y.Read(1, 0, 4)
	for i := range b[:cap(b)] {
		b[:cap(b)][i] = 'x'
	}
	l := y.Files()
	l[0] = api.File{}
	if text(t, y, 1) != "abcdef" || p[:3][2] != 0 || y.Files()[0].Ino != 1 {
		t.Error("memory is shared", text(t, y, 1))
	}
}
