package journal_test

import (
	"bytes"
	"maps"
	"math"
	"slices"
	"strconv"
	"strings"
	"testing"

	"spoor/api"
	"spoor/disk"
	"spoor/frame"
	"spoor/journal"
	"spoor/wire"
)

func opened(t *testing.T, d *disk.Disk) *journal.Journal {
	t.Helper()
	j, e := journal.Open(d)
	if e != api.OK || j == nil {
		t.Fatal(e)
	}
	return j
}

// set makes changes of slots and strings by turns.
func set(l ...any) []journal.Change {
	var out []journal.Change
	for i := 0; i < len(l); i += 2 {
		out = append(out, journal.Change{Slot: l[i].(int), Data: l[i+1].(string)})
	}
	return out
}

// framed is the frame of changes as P24.1 says it.
func framed(l ...journal.Change) []byte {
	b := wire.Num(nil, len(l))
	for _, c := range l {
		b = wire.Text(wire.Num(b, c.Slot), c.Data)
	}
	return frame.Put(nil, b)
}

// slots returns what the journal has.
func slots(j *journal.Journal) map[int]string {
	m := map[int]string{}
	for _, i := range j.Slots() {
		m[i] = j.Get(i)
	}
	return m
}

func content(d *disk.Disk, name string) []byte {
	b, _ := d.Read(name)
	return b
}

func TestExampleRun(t *testing.T) {
	d := disk.New()
	j := opened(t, d)
	if j.Set(set(3, "a", 5, "b")...) != api.OK || j.Set(set(3, "")...) != api.OK {
		t.Error("Set")
	}
	for _, j := range []*journal.Journal{j, opened(t, d)} {
		if !slices.Equal(j.Slots(), []int{5}) || j.Get(5) != "b" || j.Get(3) != "" || j.Size() != 33 {
			t.Error(j.Slots(), j.Get(5), j.Size())
		}
	}
	if j.Set() != api.ErrArg || j.Set(set(41, "x")...) != api.ErrArg || j.Set(set(0, strings.Repeat("x", api.MaxRecord))...) != api.ErrLong {
		t.Error("errors")
	}
	if j, e := journal.Open(nil); j != nil || e != api.ErrArg {
		t.Error(e)
	}
	if journal.MaxSlot != 40 {
		t.Error(journal.MaxSlot)
	}
}

func TestFormat(t *testing.T) {
	d := disk.New()
	j := opened(t, d)
	if len(d.Names()) != 0 || d.Count() != 0 || j.Size() != 0 {
		t.Error("an empty journal has files")
	}
	var want []byte
	for _, l := range [][]journal.Change{set(0, "x"), set(40, "long"+strings.Repeat("y", 300), 1, "", 1, "z"), set(7, "")} {
		d.Mark()
		if e := j.Set(l...); e != api.OK {
			t.Fatal(e)
		}
		f := framed(l...)
		want = append(want, f...)
		creates := 0
		if len(want) == len(f) {
			creates = 1
		}
		if !bytes.Equal(content(d, "journal"), want) || !slices.Equal(d.Names(), []string{"journal"}) || j.Size() != len(want) || d.Count() != creates+(len(f)+31)/32 {
			t.Errorf("%x, not %x; %d writes", content(d, "journal"), want, d.Count())
		}
	}
}

func TestChangesAreAppliedInOrder(t *testing.T) {
	j := opened(t, disk.New())
	j.Set(set(1, "a", 2, "b", 1, "c", 2, "", 3, "", 40, "d", 0, "e")...)
	if got := slots(j); !maps.Equal(got, map[int]string{0: "e", 1: "c", 40: "d"}) || !slices.Equal(j.Slots(), []int{0, 1, 40}) {
		t.Error(got)
	}
	for _, slot := range []int{2, 3, -1, 41, math.MinInt, math.MaxInt} {
		if j.Get(slot) != "" {
			t.Error(slot)
		}
	}
}

func TestSetErrors(t *testing.T) {
	d := disk.New()
	j := opened(t, d)
	j.Set(set(1, "a")...)
	d.Mark()
	most := strings.Repeat("x", api.MaxRecord)
	many := make([]journal.Change, journal.MaxSlot+2)
	for i, c := range []struct {
		l []journal.Change
		e api.Errno
	}{
		{nil, api.ErrArg}, {many, api.ErrArg}, {set(-1, "a"), api.ErrArg}, {set(2, "a", 41, "b"), api.ErrArg}, {set(2, most, math.MaxInt, "b"), api.ErrArg}, {set(2, "", math.MinInt, ""), api.ErrArg},
		{set(2, most), api.ErrLong}, {set(2, most[9:], 3, most[9:]), api.ErrLong}, {set(0, most[6:]), api.ErrLong}, {set(1, most[7:]), api.ErrLong},
	} {
		if e := j.Set(c.l...); e != c.e {
			t.Errorf("case %d: %d", i, e)
		}
	}
	if d.Count() != 0 || !maps.Equal(slots(j), map[int]string{1: "a"}) {
		t.Error("what was refused was done")
	}
	// The greatest payloads, of one change and of as many as there are slots.
	if e := j.Set(set(1, most[8:])...); e != api.OK || j.Get(1) != most[8:] {
		t.Error(e, len(j.Get(1)))
	}
	if e := j.Set(many[1:]...); e != api.OK || len(j.Slots()) != 1 {
		t.Error(e, j.Slots())
	}
}

func TestSetOnAFullDisk(t *testing.T) {
	d := disk.New()
	j := opened(t, d)
	j.Set(set(1, "a")...)
	d.Append("other", make([]byte, api.MaxDisk-d.Total()-20))
	d.Mark()
	if e := j.Set(set(1, strings.Repeat("b", 20))...); e != api.ErrFull || d.Count() != 0 || j.Get(1) != "a" {
		t.Error(e, j.Get(1))
	}
	if e := j.Set(set(1, "bc")...); e != api.OK || j.Get(1) != "bc" || opened(t, d).Get(1) != "bc" {
		t.Error(e, j.Get(1))
	}
}

func TestOpenStopsAtWhatIsWrong(t *testing.T) {
	good := append(framed(set(1, "a")...), framed(set(2, "b", 3, "c")...)...)
	bad := framed(set(4, "d")...)
	bad[len(bad)-1]++
	forty := make([]journal.Change, 41)
	for i, c := range []struct {
		tail []byte
		keep bool
	}{
		{nil, true}, {framed(set(4, "")...), true}, {framed(forty...), true}, {framed(set(40, "")...), true},
		{[]byte{0}, false}, {bad, false}, {make([]byte, 9), false}, {framed(set(4, "d")...)[:12], false},
		{frame.Put(nil, []byte("\x00")), false}, {framed(append(forty, forty[0])...), false}, {framed(set(41, "x")...), false}, {framed(set(4, "x", 41, "x")...), false}, {frame.Put(nil, []byte("\x01\x01\x01\x04\x01\x01xx")), false}, {frame.Put(nil, []byte("\x01\x01\x01\x04\x01\x02x")), false},
		{frame.Put(nil, []byte("\x01\x02\x01\x04\x01\x01x")), false}, {frame.Put(nil, []byte("x")), false}, {frame.Put(nil, []byte("\x01\x01\x01\x00\x00")), false},
	} {
		d := disk.New()
		d.Append("journal", good)
		d.Append("journal", c.tail)
		d.Append("other", []byte("x"))
		d.Mark()
		j := opened(t, d)
		want, writes := good, 1
		if c.keep {
			want, writes = append(slices.Clip(good), c.tail...), 0
		}
		if !bytes.Equal(content(d, "journal"), want) || d.Count() != writes || j.Size() != len(want) || !slices.Equal(d.Names(), []string{"journal", "other"}) {
			t.Errorf("case %d: %d bytes, %d writes", i, j.Size(), d.Count())
		}
		if got := slots(j); !maps.Equal(got, map[int]string{1: "a", 2: "b", 3: "c"}) {
			t.Errorf("case %d: %v", i, got)
		}
		// What follows what is wrong is cut, too; nothing is left to do the second time.
		d.Mark()
		if opened(t, d); d.Count() != 0 {
			t.Errorf("case %d: %d writes the second time", i, d.Count())
		}
	}
	d := disk.New()
	d.Append("journal", append(append(slices.Clip(bad), good...), good...))
	if j := opened(t, d); len(j.Slots()) != 0 || j.Size() != 0 || !slices.Equal(d.Names(), []string{"journal"}) {
		t.Error(j.Slots(), j.Size())
	}
}

func TestOpenRemovesTheNewFile(t *testing.T) {
	d := disk.New()
	d.Append("journal.new", framed(set(1, "new")...))
	d.Mark()
	if j := opened(t, d); len(j.Slots()) != 0 || len(d.Names()) != 0 || d.Count() != 1 {
		t.Error(j.Slots(), d.Names(), d.Count())
	}
	d.Append("journal", append(framed(set(1, "old")...), 0))
	d.Append("journal.new", framed(set(1, "new")...))
	d.Mark()
	if j := opened(t, d); j.Get(1) != "old" || !slices.Equal(d.Names(), []string{"journal"}) || d.Count() != 2 {
		t.Error(j.Get(1), d.Names(), d.Count())
	}
	// The removal is the first of the two.
	d.Append("journal", []byte{0})
	d.Append("journal.new", nil)
	d.Mark()
	opened(t, d)
	d.Back(1)
	if !slices.Equal(d.Names(), []string{"journal"}) || len(content(d, "journal")) != len(framed(set(1, "old")...))+1 {
		t.Error(d.Names())
	}
}

// filled makes a journal whose file has size bytes, with the slots 1, 7 and 9.
func filled(t *testing.T, size int) (*disk.Disk, *journal.Journal) {
	t.Helper()
	d := disk.New()
	j := opened(t, d)
	j.Set(set(7, "seven", 9, "nine")...)
	for j.Size() < size {
		n := min(size-j.Size(), 50000)
		if left := size - j.Size() - n; left > 0 && left < 20 {
			n -= 100
		}
		over := len(framed(set(1, strings.Repeat("x", n))...)) - n
		if e := j.Set(set(1, strings.Repeat("x", n-over))...); e != api.OK {
			t.Fatal(e)
		}
	}
	if j.Size() != size {
		t.Fatal(j.Size(), size)
	}
	return d, j
}

func TestRewriting(t *testing.T) {
	last := set(9, "", 3, "three")
	n := len(framed(last...))
	d, j := filled(t, api.Enough-n)
	if e := j.Set(last...); e != api.OK || j.Size() != api.Enough {
		t.Error(e, j.Size())
	}
	d, j = filled(t, api.Enough-n+1)
	d.Mark()
	if e := j.Set(last...); e != api.OK {
		t.Error(e)
	}
	want := append(append(framed(set(1, j.Get(1))...), framed(set(3, "three")...)...), framed(set(7, "seven")...)...)
	if !bytes.Equal(content(d, "journal"), want) || !slices.Equal(d.Names(), []string{"journal"}) || j.Size() != len(want) {
		t.Error(j.Size(), len(want), d.Names())
	}
	writes := (n+31)/32 + 1 + 1
	for _, c := range [][]journal.Change{set(1, j.Get(1)), set(3, "three"), set(7, "seven")} {
		writes += (len(framed(c...)) + 31) / 32
	}
	if d.Count() != writes {
		t.Error(d.Count(), writes)
	}
	if got := slots(opened(t, d)); !maps.Equal(got, slots(j)) || len(got) != 3 {
		t.Error(len(got))
	}
}

func TestSizeIsOfBothFiles(t *testing.T) {
	d := disk.New()
	j := opened(t, d)
	j.Set(set(1, "a")...)
	n := j.Size()
	d.Append("journal.new", make([]byte, 7))
	d.Append("other", make([]byte, 7))
	if j.Size() != n+7 {
		t.Error(j.Size(), n)
	}
}

func TestRewritingOfNothing(t *testing.T) {
	d, j := filled(t, api.Enough-5)
	if e := j.Set(set(1, "", 7, "", 9, "")...); e != api.OK || j.Size() != 0 || len(j.Slots()) != 0 || !slices.Equal(d.Names(), []string{"journal"}) {
		t.Error(e, j.Size(), d.Names())
	}
	if j = opened(t, d); len(j.Slots()) != 0 {
		t.Error(j.Slots())
	}
}

// TestRewritingAtEachCrash lets the power fail at many points of a Set that rewrites.
func TestRewritingAtEachCrash(t *testing.T) {
	last := set(9, "", 3, "three")
	d, j := filled(t, api.Enough-5)
	before := slots(j)
	d.Mark()
	j.Set(last...)
	after := slots(j)
	total := d.Count()
	kept := len(framed(last...)) / 32
	for k := 0; k <= total; k += 1 + k/40 {
		d, j := filled(t, api.Enough-5)
		d.Mark()
		j.Set(last...)
		d.Back(k)
		_, rewriting := d.Read("journal.new")
		if rewriting != (k > kept+1 && k < total) {
			t.Fatalf("%d of %d writes: journal.new %v", k, total, rewriting)
		}
		want := before
		if k > kept {
			want = after
		}
		d.Mark()
		j = opened(t, d)
		if !maps.Equal(slots(j), want) {
			t.Fatalf("%d of %d writes: %v", k, total, j.Slots())
		}
		d.Mark()
		if opened(t, d); d.Count() != 0 {
			t.Fatalf("%d of %d writes: %d the second time", k, total, d.Count())
		}
	}
}

func TestRewritingWithoutRoom(t *testing.T) {
	d, j := filled(t, api.Enough)
	d.Append("other", make([]byte, api.MaxDisk-d.Total()-200))
	d.Mark()
	if e := j.Set(set(3, "three")...); e != api.OK || j.Get(3) != "three" {
		t.Error(e)
	}
	size := api.Enough + len(framed(set(3, "three")...))
	if _, there := d.Read("journal.new"); there || j.Size() != size || d.Count() != 1+1+1 {
		t.Error(there, j.Size(), d.Count())
	}
	if got := slots(opened(t, d)); !maps.Equal(got, slots(j)) {
		t.Error(len(got))
	}
	// With room again, the next Set rewrites.
	d.Remove("other")
	if e := j.Set(set(3, "")...); e != api.OK || j.Size() > api.Enough/2 {
		t.Error(e, j.Size())
	}
}

// TestCrashes lets the power fail at any point of many Sets, and of the openings after them.
func TestCrashes(t *testing.T) {
	seed := uint32(1)
	roll := func(n int) int {
		seed = seed*1664525 + 1013904223
		return int(seed>>8) % n
	}
	for range 40 {
		d := disk.New()
		j := opened(t, d)
		for range 60 {
			var l []journal.Change
			for i := range 1 + roll(4) {
				l = append(l, journal.Change{Slot: roll(6), Data: strings.Repeat(strconv.Itoa(i), roll(60)*roll(3))})
			}
			before := slots(j)
			d.Mark()
			if e := j.Set(l...); e != api.OK {
				t.Fatal(e)
			}
			after := slots(j)
			if roll(2) == 0 {
				continue
			}
			n := roll(d.Count() + 1)
			whole := n == d.Count()
			d.Back(n)
			for range roll(3) {
				opened(t, d)
				d.Back(roll(d.Count() + 1))
			}
			j = opened(t, d)
			got := slots(j)
			if !maps.Equal(got, before) && !maps.Equal(got, after) || whole && !maps.Equal(got, after) {
				t.Fatalf("%v, neither %v nor %v", got, before, after)
			}
			d.Mark()
			if opened(t, d); d.Count() != 0 {
				t.Fatal("the second opening writes")
			}
		}
	}
}

func TestMemory(t *testing.T) {
	d := disk.New()
	j := opened(t, d)
	l := append(make([]journal.Change, 0, 5), set(1, "a", 2, "b")...)
	j.Set(l...)
	l[0] = journal.Change{Slot: 3, Data: "c"}
	s := j.Slots()
	for i := range s[:cap(s)] {
		s[:cap(s)][i] = 40
	}
	if !maps.Equal(slots(j), map[int]string{1: "a", 2: "b"}) || l[:3][2] != (journal.Change{}) {
		t.Error(slots(j))
	}
}
