package disk_test

import (
	"bytes"
	"maps"
	"math"
	"slices"
	"strings"
	"testing"

	"spoor/api"
	"spoor/disk"
)

func text(n int) []byte {
	b := make([]byte, n)
	for i := range b {
		b[i] = byte('a' + i%26)
	}
	return b
}

// all returns all files of a disk.
func all(d *disk.Disk) map[string]string {
	m := map[string]string{}
	for _, name := range d.Names() {
		b, _ := d.Read(name)
		m[name] = string(b)
	}
	return m
}

func TestExampleRun(t *testing.T) {
	d := disk.New()
	if len(d.Names()) != 0 || d.Count() != 0 || d.Total() != 0 {
		t.Error(d.Names(), d.Count(), d.Total())
	}
	if e := d.Append("a", text(33)); e != api.OK || d.Count() != 3 {
		t.Error(e, d.Count())
	}
	if e := d.Rename("a", "b"); e != api.OK || d.Count() != 4 {
		t.Error(e, d.Count())
	}
	d.Back(2)
	if b, ok := d.Read("a"); !slices.Equal(d.Names(), []string{"a"}) || !bytes.Equal(b, text(32)) || !ok || d.Count() != 0 {
		t.Error(d.Names(), string(b), d.Count())
	}
	d.Mark()
	d.Append("a", nil)
	d.Append("c", nil)
	if d.Count() != 1 {
		t.Error(d.Count())
	}
	if d.Cut("a", 99) != api.ErrArg || d.Remove("q") != api.ErrNone || d.Count() != 1 {
		t.Error("errors")
	}
	if b, ok := d.Read("c"); len(b) != 0 || !ok {
		t.Error(b, ok)
	}
}

func TestRawWritesOfAppend(t *testing.T) {
	for _, c := range []struct{ n, first, second int }{{0, 1, 0}, {1, 2, 1}, {31, 2, 1}, {32, 2, 1}, {33, 3, 2}, {64, 3, 2}, {65, 4, 3}} {
		d := disk.New()
		d.Append("a", text(c.n))
		if d.Count() != c.first {
			t.Errorf("%d bytes to a new file: %d", c.n, d.Count())
		}
		d.Mark()
		// A piece begins where the bytes of this call begin, wherever the file ends.
		d.Append("a", text(c.n))
		if d.Count() != c.second {
			t.Errorf("%d bytes to a file: %d", c.n, d.Count())
		}
		for k := range d.Count() + 1 {
			x := disk.New()
			x.Append("a", text(c.n))
			x.Mark()
			x.Append("a", text(c.n))
			x.Back(k)
			if b, _ := x.Read("a"); !bytes.Equal(b, append(text(c.n), text(c.n)[:min(c.n, k*api.Chunk)]...)) {
				t.Errorf("%d bytes, %d raw writes: %q", c.n, k, b)
			}
		}
	}
}

func TestErrors(t *testing.T) {
	d := disk.New()
	d.Append("a", text(5))
	d.Append("b", text(5))
	d.Mark()
	before := all(d)
	long := strings.Repeat("n", api.MaxName+1)
	for i, e := range []api.Errno{
		d.Append("", nil), d.Append("a b", nil), d.Append(long, text(3)), d.Append("\x7f", make([]byte, api.MaxDisk+1)), d.Rename("none", ""), d.Rename("a", ""), d.Rename("a", "b c"), d.Rename("a", long), d.Rename("", "é"),
	} {
		if e != api.ErrPath {
			t.Errorf("case %d: %d", i, e)
		}
	}
	for i, e := range []api.Errno{d.Rename("none", "x"), d.Rename("", "x"), d.Cut("none", 0), d.Cut("", -1), d.Remove("none"), d.Remove("")} {
		if e != api.ErrNone {
			t.Errorf("case %d: %d", i, e)
		}
	}
	for i, e := range []api.Errno{d.Cut("a", -1), d.Cut("a", 6), d.Cut("a", math.MinInt), d.Cut("a", math.MaxInt)} {
		if e != api.ErrArg {
			t.Errorf("case %d: %d", i, e)
		}
	}
	if d.Append("a", make([]byte, api.MaxDisk-9)) != api.ErrFull || d.Append("c", make([]byte, api.MaxDisk-9)) != api.ErrFull || d.Append("c", make([]byte, api.MaxDisk+1)) != api.ErrFull {
		t.Error("more bytes than there is room for")
	}
	if d.Count() != 0 || !maps.Equal(all(d), before) {
		t.Error("what was refused was done")
	}
	if b, ok := d.Read("c"); len(b) != 0 || ok {
		t.Error(b, ok)
	}
}

func TestFull(t *testing.T) {
	d := disk.New()
	d.Append("a", text(10))
	if e := d.Append("b", make([]byte, api.MaxDisk-10)); e != api.OK || d.Total() != api.MaxDisk {
		t.Error(e, d.Total())
	}
	if d.Append("a", text(1)) != api.ErrFull || d.Append("c", text(1)) != api.ErrFull || d.Append("c", nil) != api.OK || d.Append("a", nil) != api.OK {
		t.Error("a full disk")
	}
	d.Cut("a", 9)
	if d.Append("c", text(1)) != api.OK || d.Append("c", text(1)) != api.ErrFull || d.Total() != api.MaxDisk {
		t.Error("room for one byte")
	}
	d.Remove("b")
	if d.Total() != 10 {
		t.Error(d.Total())
	}
}

func TestNames(t *testing.T) {
	for c := range 256 {
		want := api.OK
		if c < 33 || c > 126 {
			want = api.ErrPath
		}
		d := disk.New()
		d.Append("q", nil)
		if e := d.Append(string([]byte{'a', byte(c)}), nil); e != want {
			t.Errorf("byte %d: %d", c, e)
		}
		if e := d.Rename("q", string([]byte{byte(c)})); e != want {
			t.Errorf("byte %d: %d", c, e)
		}
	}
	d := disk.New()
	for _, name := range []string{"b", "B", "ba", strings.Repeat("n", api.MaxName), "a", "~", "!"} {
		d.Append(name, nil)
	}
	if l := d.Names(); !slices.Equal(l, []string{"!", "B", "a", "b", "ba", strings.Repeat("n", 32), "~"}) {
		t.Error(l)
	}
}

func TestRenameToItself(t *testing.T) {
	d := disk.New()
	d.Append("a", text(5))
	d.Mark()
	if e := d.Rename("a", "a"); e != api.OK || d.Count() != 1 || all(d)["a"] != "abcde" {
		t.Error(e, d.Count())
	}
}

// model is a disk that remembers all files after each raw write.
type model struct {
	states []map[string]string
}

func (m *model) now() map[string]string {
	return m.states[len(m.states)-1]
}

// write makes a raw write.
func (m *model) write(change func(s map[string]string)) {
	s := maps.Clone(m.now())
	change(s)
	m.states = append(m.states, s)
}

func (m *model) append(name string, p string) {
	if _, ok := m.now()[name]; !ok {
		m.write(func(s map[string]string) { s[name] = "" })
	}
	for ; p != ""; p = p[min(32, len(p)):] {
		m.write(func(s map[string]string) { s[name] += p[:min(32, len(p))] })
	}
}

// TestLikeAModel holds a disk that fails again and again against the model.
func TestLikeAModel(t *testing.T) {
	seed := uint32(1)
	roll := func(n int) int {
		seed = seed*1664525 + 1013904223
		return int(seed>>8) % n
	}
	for range 300 {
		d, m := disk.New(), &model{[]map[string]string{{}}}
		for range 60 {
			name, to := []string{"a", "b", "c"}[roll(3)], []string{"a", "b", "c"}[roll(3)]
			old, there := m.now()[name]
			switch roll(8) {
			case 0, 1, 2:
				p := string(text(roll(100)))
				p = strings.Repeat(string(rune('A'+roll(26))), len(p)%7) + p
				if e := d.Append(name, []byte(p)); e != api.OK {
					t.Fatal(e)
				}
				m.append(name, p)
			case 3:
				if e := d.Rename(name, to); (e == api.OK) != there {
					t.Fatal(e)
				}
				if there {
					m.write(func(s map[string]string) { delete(s, name); s[to] = old })
				}
			case 4:
				n := roll(len(old) + 1)
				if e := d.Cut(name, n); (e == api.OK) != there {
					t.Fatal(e)
				}
				if there {
					m.write(func(s map[string]string) { s[name] = old[:n] })
				}
			case 5:
				if e := d.Remove(name); (e == api.OK) != there {
					t.Fatal(e)
				}
				if there {
					m.write(func(s map[string]string) { delete(s, name) })
				}
			case 6:
				d.Mark()
				m.states = m.states[len(m.states)-1:]
			case 7:
				n := roll(len(m.states)+4) - 2
				d.Back(n)
				m.states = m.states[max(0, min(n, len(m.states)-1)):][:1]
			}
			if d.Count() != len(m.states)-1 || !maps.Equal(all(d), m.now()) {
				t.Fatalf("%d writes, %v, not %d, %v", d.Count(), all(d), len(m.states)-1, m.now())
			}
		}
	}
}

func TestBack(t *testing.T) {
	for _, c := range []struct {
		n    int
		want string
	}{{math.MinInt, "abc"}, {-1, "abc"}, {0, "abc"}, {1, "abcd"}, {2, "abcde"}, {3, "abcde"}, {math.MaxInt, "abcde"}} {
		d := disk.New()
		d.Append("a", []byte("abc"))
		d.Mark()
		d.Append("a", []byte("d"))
		d.Append("a", []byte("e"))
		d.Back(c.n)
		if s := all(d)["a"]; s != c.want || d.Count() != 0 {
			t.Errorf("Back(%d): %q", c.n, s)
		}
		// Back sets a mark: what was lost does not come back, and what was kept stays.
		d.Append("a", []byte("z"))
		d.Back(0)
		if s := all(d)["a"]; s != c.want {
			t.Errorf("Back(%d), then Back(0): %q", c.n, s)
		}
		d.Append("a", []byte("z"))
		d.Back(d.Count())
		if s := all(d)["a"]; s != c.want+"z" {
			t.Errorf("Back(%d), then Back of all: %q", c.n, s)
		}
	}
}

func TestMemory(t *testing.T) {
	d := disk.New()
	p := append(make([]byte, 0, 9), "abc"...)
	d.Append("a", p)
	p[0] = 'x'
	b, _ := d.Read("a")
	for i := range b[:cap(b)] {
		b[:cap(b)][i] = 'x'
	}
	l := d.Names()
	l[0] = "x"
	d.Append("a", []byte("d"))
	if s := all(d)["a"]; s != "abcd" || p[:4][3] != 0 {
		t.Errorf("memory is shared: %q", s)
	}
	d.Back(9)
	if s := all(d)["a"]; s != "abcd" {
		t.Errorf("memory is shared: %q", s)
	}
}
