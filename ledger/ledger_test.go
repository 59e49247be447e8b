package ledger_test

import (
	"bytes"
	"math"
	"slices"
	"strings"
	"testing"

	"spoor/api"
	"spoor/disk"
	"spoor/frame"
	"spoor/ledger"
	"spoor/wire"
)

func opened(t *testing.T, d *disk.Disk) *ledger.Ledger {
	t.Helper()
	g, e := ledger.Open(d)
	if e != api.OK || g == nil {
		t.Fatal(e)
	}
	return g
}

func match(ino, gen, at int, rule string, l ...int) api.Record {
	r := api.Record{Key: api.Key{Ino: ino, Gen: gen, At: at, Rule: rule}, Kind: api.FMatch}
	for i := range r.Caps {
		r.Caps[i] = -1
		if i < len(l) {
			r.Caps[i] = l[i]
		}
	}
	return r
}

func long(ino, gen, at int) api.Record {
	return api.Record{Key: api.Key{Ino: ino, Gen: gen, At: at}, Kind: api.FLong}
}

func content(d *disk.Disk) []byte {
	b, _ := d.Read("ledger")
	return b
}

func framed(l ...api.Record) []byte {
	var b []byte
	for _, r := range l {
		b = frame.Put(b, ledger.Put(r))
	}
	return b
}

func right() []api.Record {
	name := strings.Repeat("n", api.MaxName)
	return []api.Record{
		match(1, 1, 5, "a", 0, 3), match(12, 1<<40, 1<<40, name, 500, 500, 500, 500, 500, 500, 500, 500, 500, 500), match(3, 2, 0, "A-z_0.9"), match(1, 1, 5, "b", 0, 0), long(1, 1, 5), long(12, 1<<40, 1<<40), long(2, 300, 70000),
	}
}

func TestRight(t *testing.T) {
	for _, r := range right() {
		if !ledger.Right(r) {
			t.Errorf("%v is right", r)
		}
	}
	for _, f := range []func(r *api.Record){
		func(r *api.Record) { r.Ino = 0 }, func(r *api.Record) { r.Ino = -1 }, func(r *api.Record) { r.Ino = 13 }, func(r *api.Record) { r.Ino = math.MaxInt },
		func(r *api.Record) { r.Gen = 0 }, func(r *api.Record) { r.Gen = -1 }, func(r *api.Record) { r.Gen = 1<<40 + 1 }, func(r *api.Record) { r.Gen = math.MinInt },
		func(r *api.Record) { r.At = -1 }, func(r *api.Record) { r.At = 1<<40 + 1 }, func(r *api.Record) { r.At = math.MaxInt },
		func(r *api.Record) { r.Kind = 0 }, func(r *api.Record) { r.Kind = 3 }, func(r *api.Record) { r.Kind = -1 },
		func(r *api.Record) { r.Kind = 3 - r.Kind },
		func(r *api.Record) { r.Caps[9] = -2 }, func(r *api.Record) { r.Caps[0] = 501 }, func(r *api.Record) { r.Caps[3] = math.MaxInt }, func(r *api.Record) { r.Caps[3] = math.MinInt },
		func(r *api.Record) { r.Rule += " " }, func(r *api.Record) { r.Rule += "é" }, func(r *api.Record) { r.Rule = strings.Repeat("n", 33) },
	} {
		for _, r := range []api.Record{match(1, 1, 5, "a", 0, 3), long(1, 1, 5)} {
			f(&r)
			if ledger.Right(r) || len(ledger.Put(r)) != 0 {
				t.Errorf("%v is not right", r)
			}
		}
	}
	r := match(1, 1, 5, "")
	s, u := long(1, 1, 5), long(1, 1, 5)
	s.Rule = "a"
	u.Caps[9] = 1
	for _, r := range []api.Record{r, s, u, {}} {
		if ledger.Right(r) || len(ledger.Put(r)) != 0 {
			t.Errorf("%v is not right", r)
		}
	}
}

func TestPut(t *testing.T) {
	want := "\x01\x02\x02\x01\x2c\x00" + "\x01\x02ab" + "\x01\x01" + "\x01\x01\x02\x01\x2c" + strings.Repeat("\x00", 8)
	if got := ledger.Put(match(2, 300, 0, "ab", 0, 299)); string(got) != want {
		t.Errorf("%x, not %x", got, want)
	}
	want = "\x01\x01\x01\x02\x01\x03\x00" + "\x01\x02" + strings.Repeat("\x01\x01", 10)
	if got := ledger.Put(long(1, 2, 3)); string(got) != want {
		t.Errorf("%x, not %x", got, want)
	}
}

// raw encodes any record.
func raw(r api.Record) []byte {
	b := wire.Num(wire.Text(wire.Num(wire.Num(wire.Num(nil, r.Ino), r.Gen), r.At), r.Rule), r.Kind)
	for _, x := range r.Caps {
		b = wire.Num(b, x+1)
	}
	return b
}

func TestGet(t *testing.T) {
	for _, r := range right() {
		b := ledger.Put(r)
		if !bytes.Equal(b, raw(r)) {
			t.Errorf("%v: %x", r, b)
		}
		if got, ok := ledger.Get(b); got != r || !ok {
			t.Errorf("%v: %v %v", r, got, ok)
		}
		for k := range b {
			if got, ok := ledger.Get(b[:k]); got != (api.Record{}) || ok {
				t.Errorf("%v, %d bytes: %v", r, k, got)
			}
		}
		if got, ok := ledger.Get(append(slices.Clip(b), 0)); got != (api.Record{}) || ok {
			t.Errorf("%v, one byte more: %v", r, got)
		}
	}
	wrong := match(1, 1, 5, "a b")
	caps := match(1, 1, 5, "a", 501)
	kind := match(1, 1, 5, "a")
	kind.Kind = 3
	name := match(1, 1, 5, strings.Repeat("n", 33))
	for i, b := range [][]byte{nil, {9}, raw(match(0, 1, 5, "a")), raw(match(13, 1, 5, "a")), raw(match(1, 0, 5, "a")), raw(wrong), raw(caps), raw(kind), raw(name), raw(match(1, 1, 5, "")), raw(match(1, 1, math.MaxInt, "a"))} {
		if got, ok := ledger.Get(b); got != (api.Record{}) || ok {
			t.Errorf("case %d: %v", i, got)
		}
	}
}

func TestExampleRun(t *testing.T) {
	d := disk.New()
	g := opened(t, d)
	if g.Len() != 0 || len(g.List(0)) != 0 || len(d.Names()) != 0 {
		t.Error("an empty ledger")
	}
	for i, c := range []struct {
		r    api.Record
		want bool
	}{{match(1, 1, 5, "a", 0, 1), true}, {match(1, 1, 5, "a", 0, 1), false}, {long(1, 1, 5), true}} {
		if ok, e := g.Add(c.r); ok != c.want || e != api.OK {
			t.Error(i, ok, e)
		}
	}
	if g.Len() != 2 {
		t.Error(g.Len())
	}
	if l := opened(t, d).List(1); !slices.Equal(l, []api.Record{long(1, 1, 5)}) {
		t.Error(l)
	}
	if g, e := ledger.Open(nil); g != nil || e != api.ErrArg {
		t.Error(e)
	}
}

func TestAdd(t *testing.T) {
	d := disk.New()
	g := opened(t, d)
	var want []byte
	for _, r := range right() {
		d.Mark()
		if g.Has(r.Key) {
			t.Errorf("%v is there", r)
		}
		if ok, e := g.Add(r); !ok || e != api.OK || !g.Has(r.Key) {
			t.Errorf("%v: %v, %d", r, ok, e)
		}
		f := framed(r)
		creates := 0
		if len(want) == 0 {
			creates = 1
		}
		want = append(want, f...)
		if !bytes.Equal(content(d), want) || d.Count() != creates+(len(f)+31)/32 {
			t.Errorf("%x, not %x; %d writes", content(d), want, d.Count())
		}
	}
	// The key decides, whatever else a record has.
	d.Mark()
	other := match(1, 1, 5, "a", 7, 8)
	for _, r := range append(right(), other) {
		if ok, e := g.Add(r); ok || e != api.OK {
			t.Errorf("%v again: %v, %d", r, ok, e)
		}
	}
	for i, r := range []api.Record{{}, match(0, 1, 1, "a"), match(1, 1, 5, "a", 501), match(1, 1, 6, "")} {
		if ok, e := g.Add(r); ok || e != api.ErrArg || g.Has(r.Key) && i != 2 {
			t.Errorf("case %d: %v, %d", i, ok, e)
		}
	}
	if d.Count() != 0 || !slices.Equal(g.List(0), right()) || g.Len() != len(right()) {
		t.Error("what was refused was done")
	}
	for _, k := range []api.Key{{}, {Ino: 1, Gen: 1, At: 5, Rule: "c"}, {Ino: 1, Gen: 1, At: 6, Rule: "a"}, {Ino: 1, Gen: 2, At: 5, Rule: "a"}, {Ino: 2, Gen: 1, At: 5, Rule: "a"}} {
		if g.Has(k) {
			t.Errorf("%v is there", k)
		}
	}
}

func TestAddOnAFullDisk(t *testing.T) {
	d := disk.New()
	g := opened(t, d)
	g.Add(match(1, 1, 5, "a"))
	d.Append("other", make([]byte, api.MaxDisk-d.Total()-len(framed(match(1, 1, 6, "a")))))
	d.Mark()
	big := match(1, 1, 6, "ab")
	if ok, e := g.Add(big); ok || e != api.ErrFull || g.Has(big.Key) || g.Len() != 1 || d.Count() != 0 {
		t.Error(ok, e)
	}
	// In order: what is not right, what is there already, what has no room.
	if ok, e := g.Add(match(0, 1, 6, "ab")); ok || e != api.ErrArg {
		t.Error(ok, e)
	}
	if ok, e := g.Add(match(1, 1, 5, "a")); ok || e != api.OK {
		t.Error(ok, e)
	}
	if ok, e := g.Add(match(1, 1, 6, "a")); !ok || e != api.OK || opened(t, d).Len() != 2 {
		t.Error(ok, e)
	}
}

func TestList(t *testing.T) {
	g := opened(t, disk.New())
	for _, r := range right() {
		g.Add(r)
	}
	n := len(right())
	for _, from := range []int{math.MinInt, -1, 0, 1, n - 1, n, n + 1, math.MaxInt} {
		want := right()[max(0, min(from, n)):]
		if l := g.List(from); !slices.Equal(l, want) {
			t.Errorf("List(%d): %v", from, l)
		}
	}
	l := g.List(0)
	for i := range l[:cap(l)] {
		l[:cap(l)][i] = api.Record{}
	}
	g.Add(match(9, 9, 9, "z"))
	if !slices.Equal(g.List(0), append(right(), match(9, 9, 9, "z"))) {
		t.Error("memory is shared")
	}
}

func TestOpenStopsAtWhatIsWrong(t *testing.T) {
	good := right()
	tail := match(7, 7, 7, "tail")
	bad := framed(tail)
	bad[len(bad)-1]++
	for i, c := range []struct {
		tail []byte
		want []api.Record
	}{
		{nil, good}, {framed(tail), append(right(), tail)},
		{[]byte{0}, good}, {bad, good}, {make([]byte, 9), good}, {framed(tail)[:20], good}, {frame.Put(nil, []byte("x")), good}, {frame.Put(nil, append(ledger.Put(tail), 0)), good}, {frame.Put(nil, raw(match(7, 7, 7, "a b"))), good},
		{framed(good[0]), good}, {framed(match(1, 1, 5, "a", 9, 9)), good}, {framed(tail, tail), append(right(), tail)}, {framed(tail, good[3], match(7, 7, 8, "lost")), append(right(), tail)},
	} {
		d := disk.New()
		d.Append("ledger", framed(good...))
		d.Append("ledger", c.tail)
		d.Append("other", []byte("x"))
		d.Mark()
		g := opened(t, d)
		want := framed(c.want...)
		writes := 1
		if len(want) == len(framed(good...))+len(c.tail) {
			writes = 0
		}
		if !slices.Equal(g.List(0), c.want) || !bytes.Equal(content(d), want) || d.Count() != writes || !slices.Equal(d.Names(), []string{"ledger", "other"}) {
			t.Errorf("case %d: %v, %d writes", i, g.List(0), d.Count())
		}
		d.Mark()
		if opened(t, d); d.Count() != 0 {
			t.Errorf("case %d: %d writes the second time", i, d.Count())
		}
		if ok, e := g.Add(match(8, 8, 8, "next")); !ok || e != api.OK || opened(t, d).Len() != len(c.want)+1 {
			t.Errorf("case %d: %v, %d", i, ok, e)
		}
	}
}

// TestCrashes lets the power fail at each point of some calls of Add.
func TestCrashes(t *testing.T) {
	first, more := right()[:3], right()[3:]
	for k := 0; ; k++ {
		d := disk.New()
		g := opened(t, d)
		for _, r := range first {
			g.Add(r)
		}
		d.Mark()
		for _, r := range more {
			g.Add(r)
		}
		if k > d.Count() {
			return
		}
		total := d.Count()
		d.Back(k)
		g = opened(t, d)
		l := g.List(0)
		if len(l) < len(first) || !slices.Equal(l, right()[:len(l)]) || k == total && len(l) != len(right()) {
			t.Fatalf("%d writes: %v", k, l)
		}
		// The same calls again lead to what there would have been.
		for i, r := range more {
			if ok, e := g.Add(r); ok != (len(first)+i >= len(l)) || e != api.OK {
				t.Fatalf("%d writes: %v, %d", k, ok, e)
			}
		}
		if !slices.Equal(opened(t, d).List(0), right()) || !bytes.Equal(content(d), framed(right()...)) {
			t.Fatalf("%d writes: %v", k, g.List(0))
		}
	}
}
