package follow_test

import (
	"reflect"
	"slices"
	"strconv"
	"strings"
	"testing"

	"spoor/api"
	"spoor/disk"
	"spoor/follow"
	"spoor/ident"
	"spoor/journal"
	"spoor/ledger"
	"spoor/point"
	"spoor/rules"
	"spoor/stream"
	"spoor/yard"
)

// set makes a rule set of names and texts by turns; a last one alone is the continuation pattern.
func set(l ...string) api.Set {
	var s api.Set
	for ; len(l) > 1; l = l[2:] {
		s.Rules = append(s.Rules, api.Pattern{Name: l[0], Text: l[1]})
	}
	if len(l) == 1 {
		s.Cont = l[0]
	}
	return s
}

func opened(t *testing.T, d *disk.Disk, y *yard.Yard) *follow.Follower {
	t.Helper()
	f, e := follow.Open(d, y)
	if e != api.OK || f == nil {
		t.Fatal(e)
	}
	return f
}

// began returns a yard and a follower that was given rules.
func began(t *testing.T, l ...string) (*yard.Yard, *disk.Disk, *follow.Follower) {
	t.Helper()
	y, d := yard.New(), disk.New()
	f := opened(t, d, y)
	if e, n := f.Load(set(l...)); e != api.OK || n != 0 {
		t.Fatal(e, n)
	}
	return y, d, f
}

// write appends to a file, which is created if it is not there.
func write(t *testing.T, y *yard.Yard, name, text string) {
	t.Helper()
	if _, ok := y.Find(name); !ok {
		if e := y.Create(name); e != api.OK {
			t.Fatal(name, e)
		}
	}
	if e := y.Append(name, []byte(text)); e != api.OK {
		t.Fatal(name, e)
	}
}

// poll polls without errors.
func poll(t *testing.T, f *follow.Follower) {
	t.Helper()
	if l := f.Poll(); len(l) != 0 {
		t.Error(l)
	}
}

func match(ino, gen, at int, rule string, l ...int) api.Record {
	r := api.Record{Key: api.Key{Ino: ino, Gen: gen, At: at, Rule: rule}, Kind: api.FMatch}
	for i := range r.Caps {
		r.Caps[i] = -1
		if i < len(l) {
			r.Caps[i] = l[i]
		}
	}
	return r
}

func long(ino, gen, at int) api.Record {
	return api.Record{Key: api.Key{Ino: ino, Gen: gen, At: at}, Kind: api.FLong}
}

// has compares the records.
func has(t *testing.T, f *follow.Follower, want ...api.Record) {
	t.Helper()
	if l := f.Query(0); !slices.Equal(l, want) {
		t.Errorf("%v, not %v", l, want)
	}
}

// ats writes how far files are read: their numbers, generations and positions.
func ats(f *follow.Follower) string {
	var l []string
	for _, e := range f.Entries() {
		l = append(l, strconv.Itoa(e.Ino)+"."+strconv.Itoa(e.Gen)+"@"+strconv.Itoa(e.At))
	}
	return strings.Join(l, " ")
}

func y(n int) string {
	return strings.Repeat("y", n)
}

func TestExampleRun(t *testing.T) {
	y := yard.New()
	f := opened(t, disk.New(), y)
	write(t, y, "log", "xx\ny")
	if poll(t, f); ats(f) != "" || y.Taken(1) != 0 {
		t.Error("a poll without rules", ats(f))
	}
	if r, ok := f.Rules(); r != nil || ok {
		t.Error(r, ok)
	}
	if e, n := f.Load(set("a", "x+")); e != api.OK || n != 0 {
		t.Error(e, n)
	}
	poll(t, f)
	has(t, f, match(1, 1, 0, "a", 0, 2))
	if ats(f) != "1.1@4" {
		t.Error(ats(f))
	}
	write(t, y, "log", "x\n")
	poll(t, f)
	if l := f.Query(1); !slices.Equal(l, []api.Record{match(1, 1, 3, "a", 1, 2)}) {
		t.Error(l)
	}
	y.Cut("log", 0)
	write(t, y, "log", "x\n")
	poll(t, f)
	if l := f.Query(2); !slices.Equal(l, []api.Record{match(1, 2, 0, "a", 0, 1)}) || ats(f) != "1.2@2" {
		t.Error(l, ats(f))
	}
	if len(f.Query(3)) != 0 || len(f.Query(-5)) != 3 {
		t.Error("Query")
	}
}

func TestContinuedEvents(t *testing.T) {
	y, _, f := began(t, "a", "a\n b", "^ ")
	for _, c := range []struct {
		text string
		n    int
	}{{"a\n", 0}, {" b\n", 0}, {"c", 0}, {"\n", 1}} {
		write(t, y, "log", c.text)
		if poll(t, f); len(f.Query(0)) != c.n {
			t.Error(c.text, f.Query(0))
		}
	}
	has(t, f, match(1, 1, 0, "a", 0, 4))
}

func TestLongLines(t *testing.T) {
	w, _, f := began(t, "a", "x")
	write(t, w, "log", y(200))
	poll(t, f)
	has(t, f)
	write(t, w, "log", "y")
	poll(t, f)
	has(t, f, long(1, 1, 0))
	write(t, w, "log", "xxx\nx\n")
	poll(t, f)
	has(t, f, long(1, 1, 0), match(1, 1, 205, "a", 0, 1))
}

func TestRenamedFilesAreContinued(t *testing.T) {
	y, _, f := began(t, "a", "x")
	write(t, y, "log", "a long beginning\nx")
	poll(t, f)
	y.Rename("log", "log.1")
	write(t, y, "log", "x\n")
	write(t, y, "log.1", "\nx\n")
	poll(t, f)
	has(t, f, match(1, 1, 17, "a", 0, 1), match(1, 1, 19, "a", 0, 1), match(2, 1, 0, "a", 0, 1))
	if ats(f) != "1.1@21 2.1@2" {
		t.Error(ats(f))
	}
}

func TestFreshFiles(t *testing.T) {
	for _, c := range []struct {
		name   string
		change func(y *yard.Yard)
		ats    string
		want   []api.Record
	}{
		{"cut to nothing", func(y *yard.Yard) { y.Cut("log", 0) }, "1.2@0", nil},
		{"cut below what was read", func(y *yard.Yard) { y.Cut("log", 3) }, "1.2@3", nil},
		{"cut and written with another beginning", func(y *yard.Yard) { y.Cut("log", 0); y.Append("log", []byte("z\nmore than there was\nx\n")) }, "1.2@24", []api.Record{match(1, 2, 22, "a", 0, 1)}},
		{"cut and written with the same beginning", func(y *yard.Yard) { y.Cut("log", 3); y.Append("log", []byte("c\n0123456789abcdef\nx\n")) }, "1.1@24", []api.Record{match(1, 1, 22, "a", 0, 1)}},
		{"replaced at once", func(y *yard.Yard) { y.Remove("log"); y.Create("log"); y.Append("log", []byte("other\nx\n")) }, "1.2@8", []api.Record{match(1, 2, 6, "a", 0, 1)}},
		{"nothing", func(y *yard.Yard) {}, "1.1@22", nil},
	} {
		y, d, f := began(t, "a", "x")
		write(t, y, "log", "ab\nc\n0123456789abcdef\n")
		poll(t, f)
		if ats(f) != "1.1@22" {
			t.Fatal(ats(f))
		}
		c.change(y)
		poll(t, f)
		if ats(f) != c.ats {
			t.Errorf("%s: %s", c.name, ats(f))
		}
		has(t, f, c.want...)
		if f = opened(t, d, y); ats(f) != c.ats {
			t.Errorf("%s, opened again: %s", c.name, ats(f))
		}
	}
}

func TestFilesThatAreGone(t *testing.T) {
	y, d, f := began(t, "a", "x")
	write(t, y, "one", "x\n")
	write(t, y, "two", "x\n")
	poll(t, f)
	y.Remove("one")
	poll(t, f)
	if ats(f) != "2.1@2" || f.Gen(1) != 1 || f.Gen(2) != 1 || f.Gen(3) != 0 || f.Gen(0) != 0 || f.Gen(-1) != 0 || f.Gen(13) != 0 {
		t.Error(ats(f), f.Gen(1))
	}
	j, _ := journal.Open(d)
	if j.Get(1) != "\x00\x01\x01\x01\x01" {
		t.Errorf("%x", j.Get(1))
	}
	// The number comes back with the same bytes: another generation all the same.
	write(t, y, "three", "x\n")
	f = opened(t, d, y)
	if f.Gen(1) != 1 {
		t.Error(f.Gen(1))
	}
	poll(t, f)
	has(t, f, match(1, 1, 0, "a", 0, 1), match(2, 1, 0, "a", 0, 1), match(1, 2, 0, "a", 0, 1))
	if ats(f) != "1.2@2 2.1@2" || f.Gen(1) != 2 {
		t.Error(ats(f))
	}
}

func TestMaxFiles(t *testing.T) {
	y, d, f := began(t, "a", "x")
	for i := range 10 {
		write(t, y, strconv.Itoa(i), "x\n")
	}
	want := []follow.Told{{Ino: 9, Why: api.ErrMany}, {Ino: 10, Why: api.ErrMany}}
	for range 2 {
		if l := f.Poll(); !slices.Equal(l, want) {
			t.Error(l)
		}
	}
	if len(f.Entries()) != api.MaxFiles || y.Taken(9) != 0 || y.Taken(10) != 0 || f.Gen(9) != 0 || len(f.Query(0)) != 8 {
		t.Error(ats(f), y.Taken(9))
	}
	y.Remove("3")
	if l := f.Poll(); !slices.Equal(l, want[1:]) || ats(f) != "1.1@2 2.1@2 3.1@2 5.1@2 6.1@2 7.1@2 8.1@2 9.1@2" {
		t.Error(l, ats(f))
	}
	// A file that is followed may begin anew, however many there are.
	y.Cut("9", 0)
	y.Cut("8", 0)
	if l := opened(t, d, y).Poll(); !slices.Equal(l, want[1:]) {
		t.Error(l)
	}
}

func TestReadsOnce(t *testing.T) {
	y, d, f := began(t, "a", "x", "^ ")
	write(t, y, "log", strings.Repeat("x\n", 100))
	taken := 0
	more := func(n int) {
		t.Helper()
		if y.Taken(1)-taken != n {
			t.Errorf("%d bytes were read, not %d", y.Taken(1)-taken, n)
		}
		taken = y.Taken(1)
	}
	poll(t, f)
	more(16 + 200)
	poll(t, f)
	more(16)
	write(t, y, "log", "y\n z")
	poll(t, f)
	more(16 + 4)
	f = opened(t, d, y)
	poll(t, f)
	more(16)
	// Under other rules, the open event is read again, and no more.
	f.Load(set("b", "z", "^ "))
	more(0)
	poll(t, f)
	more(16 + 4)
	y.Cut("log", 5)
	poll(t, f)
	more(5 + 5)
	y.Cut("log", 0)
	poll(t, f)
	more(0)
}

func TestPollWritesOnlyWhatChanged(t *testing.T) {
	y, d, f := began(t, "a", "x")
	d.Mark()
	count := func(journalFrames, records int) {
		t.Helper()
		before := d.Count()
		d.Mark()
		poll(t, f)
		after := d.Count()
		if before != 0 || (after == 0) != (journalFrames+records == 0) {
			t.Errorf("%d raw writes", after)
		}
		d.Mark()
	}
	count(0, 0)
	y.Create("log")
	count(1, 0)
	count(0, 0)
	write(t, y, "log", "x")
	count(1, 0)
	count(0, 0)
	y.Rename("log", "other")
	count(0, 0)
	y.Cut("other", 0)
	count(1, 0)
	count(0, 0)
	y.Remove("other")
	count(1, 0)
	count(0, 0)
}

func TestLoad(t *testing.T) {
	y, d, f := began(t, "a", "x")
	write(t, y, "log", "x\nxy")
	write(t, y, "other", "y\n")
	poll(t, f)
	has(t, f, match(1, 1, 0, "a", 0, 1))
	for i, c := range []struct {
		s api.Set
		e api.Errno
		n int
	}{{set("b", "(", "c", "x"), api.ErrForm, 0}, {set("b", "x", "b", "x"), api.ErrTaken, 1}, {set("b", "x", "*"), api.ErrForm, 1}, {set("a", "x"), api.OK, 0}} {
		d.Mark()
		e, n := f.Load(c.s)
		if e != c.e || n != c.n || d.Count() != 0 || ats(f) != "1.1@4 2.1@2" {
			t.Errorf("case %d: %d, %d", i, e, n)
		}
		if r, ok := f.Rules(); !ok || r.Name(0) != "a" {
			t.Errorf("case %d: %v", i, r)
		}
	}
	d.Mark()
	if e, n := f.Load(set("a", "x", "b", "y")); e != api.OK || n != 0 || d.Count() == 0 || ats(f) != "1.1@2 2.1@2" {
		t.Error(e, n, ats(f))
	}
	if r, ok := f.Rules(); !ok || r.Count() != 2 {
		t.Error(r, ok)
	}
	if e := f.Entries(); e[0].Len != 4 || e[0].Line != 2 {
		t.Error(e)
	}
	write(t, y, "log", "\n")
	poll(t, f)
	has(t, f, match(1, 1, 0, "a", 0, 1), match(1, 1, 2, "a", 0, 1), match(1, 1, 2, "b", 1, 2))
	if opened(t, d, y); ats(f) != "1.1@5 2.1@2" {
		t.Error(ats(f))
	}
}

func TestLoadIsOneChange(t *testing.T) {
	y, d, f := began(t, "a", "x", "^ ")
	write(t, y, "one", "x\n y\n z")
	write(t, y, "two", "x")
	write(t, y, "gone", "x")
	poll(t, f)
	y.Remove("gone")
	poll(t, f)
	next := set("b", "z", "^")
	r, _, _ := rules.Load(next)
	old := f.Entries()
	b, _ := d.Read("journal")
	if e, _ := f.Load(next); e != api.OK {
		t.Fatal(e)
	}
	// The same frame, made by a journal of its own.
	other := disk.New()
	other.Append("journal", b)
	j, _ := journal.Open(other)
	changes := []journal.Change{{Slot: 0, Data: string(rules.Put(nil, next))}}
	for _, e := range old {
		s, _ := stream.Again(r, e.Stream)
		e.Stream = s
		changes = append(changes, journal.Change{Slot: e.Ino, Data: point.Encode(r, point.Point{Live: true, Entry: e})})
	}
	j.Set(changes...)
	got, _ := d.Read("journal")
	want, _ := other.Read("journal")
	if string(got) != string(want) || len(changes) != 3 {
		t.Errorf("%x, not %x", got, want)
	}
	if ats(f) != "1.1@0 2.1@0" {
		t.Error(ats(f))
	}
	// A rule set without rules is one, too.
	if e, n := f.Load(api.Set{}); e != api.OK || n != 0 {
		t.Error(e, n)
	}
	f = opened(t, d, y)
	if r, ok := f.Rules(); !ok || r.Count() != 0 || ats(f) != "1.1@0 2.1@0" {
		t.Error(r, ok, ats(f))
	}
}

func TestStorage(t *testing.T) {
	y, d, f := began(t, "a", "x", "^ ")
	write(t, y, "one", "x\n y\n z")
	write(t, y, "two", "x")
	poll(t, f)
	r, _ := f.Rules()
	j, _ := journal.Open(d)
	if !slices.Equal(j.Slots(), []int{0, 1, 2}) || j.Get(0) != string(rules.Put(nil, set("a", "x", "^ "))) {
		t.Errorf("%v, %x", j.Slots(), j.Get(0))
	}
	for i, text := range []string{"x\n y\n z", "x"} {
		x, _ := stream.New(r)
		x.Feed([]byte(text))
		p := point.Point{Live: true, Entry: api.Entry{Ino: i + 1, Gen: 1, Head: ident.Head([]byte(text)), Stream: x.State()}}
		if j.Get(i+1) != point.Encode(r, p) {
			t.Errorf("%x, not %x", j.Get(i+1), point.Encode(r, p))
		}
	}
	if !slices.Equal(d.Names(), []string{"journal"}) {
		t.Error(d.Names())
	}
	write(t, y, "two", "\nz\n")
	poll(t, f)
	g, _ := ledger.Open(d)
	if !slices.Equal(g.List(0), f.Query(0)) || g.Len() != 1 {
		t.Error(g.List(0))
	}
}

// TestOrderOfWrites: the records of a file are written ahead of its point, file by file.
func TestOrderOfWrites(t *testing.T) {
	y, d, f := began(t, "a", "x")
	write(t, y, "one", "x\nx\n")
	write(t, y, "two", "x\n")
	d.Mark()
	poll(t, f)
	total := d.Count()
	var seen []string
	for k := range total + 1 {
		y2, d2, f2 := began(t, "a", "x")
		write(t, y2, "one", "x\nx\n")
		write(t, y2, "two", "x\n")
		d2.Mark()
		f2.Poll()
		d2.Back(k)
		f2 = opened(t, d2, y2)
		s := strconv.Itoa(len(f2.Query(0))) + " " + ats(f2)
		if len(seen) == 0 || seen[len(seen)-1] != s {
			seen = append(seen, s)
		}
	}
	if want := []string{"0 ", "1 ", "2 ", "2 1.1@4", "3 1.1@4", "3 1.1@4 2.1@2"}; !slices.Equal(seen, want) {
		t.Errorf("%q, not %q", seen, want)
	}
}

func TestOpenErrors(t *testing.T) {
	if f, e := follow.Open(nil, yard.New()); f != nil || e != api.ErrArg {
		t.Error(e)
	}
	if f, e := follow.Open(disk.New(), nil); f != nil || e != api.ErrArg {
		t.Error(e)
	}
	s := set("a", "x")
	r, _, _ := rules.Load(s)
	other, _, _ := rules.Load(set("b", "x"))
	good := string(rules.Put(nil, s))
	x, _ := stream.New(r)
	live := func(ino int) string {
		return point.Encode(r, point.Point{Live: true, Entry: api.Entry{Ino: ino, Gen: 1, Stream: x.State()}})
	}
	dead := func(ino int) string { return point.Encode(nil, point.Point{Entry: api.Entry{Ino: ino, Gen: 7}}) }
	z, _ := stream.New(other)
	stale := point.Encode(other, point.Point{Live: true, Entry: api.Entry{Ino: 2, Gen: 1, Stream: z.State()}})
	for i, c := range []struct {
		slots map[int]string
		e     api.Errno
	}{
		{map[int]string{}, api.OK}, {map[int]string{0: good}, api.OK}, {map[int]string{0: good, 1: live(1), 12: dead(12)}, api.OK}, {map[int]string{3: dead(3)}, api.OK}, {map[int]string{0: "\x00\x00"}, api.OK},
		{map[int]string{0: "x"}, api.ErrForm}, {map[int]string{0: good + "\x00"}, api.ErrForm}, {map[int]string{0: good[:4]}, api.ErrForm}, {map[int]string{0: string(rules.Put(nil, set("a", "(")))}, api.ErrForm}, {map[int]string{0: string(rules.Put(nil, set("a", "x", "a", "x")))}, api.ErrForm}, {map[int]string{0: "x", 1: "y"}, api.ErrForm},
		{map[int]string{0: good, 1: "\x00"}, api.ErrShort}, {map[int]string{0: good, 1: live(1) + "\x00"}, api.ErrTail}, {map[int]string{0: good, 2: stale}, api.ErrStale}, {map[int]string{1: live(1)}, api.ErrStale}, {map[int]string{0: good, 1: "\x01\x02"}, api.ErrForm},
		{map[int]string{0: good, 1: live(2)}, api.ErrForm}, {map[int]string{0: good, 3: dead(4)}, api.ErrForm}, {map[int]string{0: good, 1: live(1), 2: stale, 3: "\x00"}, api.ErrStale}, {map[int]string{0: good, 1: "\x00", 2: stale}, api.ErrShort}, {map[int]string{0: good, 2: live(1), 3: stale}, api.ErrForm},
	} {
		d := disk.New()
		j, _ := journal.Open(d)
		for slot, data := range c.slots {
			j.Set(journal.Change{Slot: slot, Data: data})
		}
		f, e := follow.Open(d, yard.New())
		if e != c.e || (f == nil) != (e != api.OK) {
			t.Errorf("case %d: %d, not %d", i, e, c.e)
		}
	}
	d := disk.New()
	j, _ := journal.Open(d)
	j.Set(journal.Change{Slot: 0, Data: good}, journal.Change{Slot: 1, Data: live(1)}, journal.Change{Slot: 5, Data: dead(5)}, journal.Change{Slot: 12, Data: dead(12)})
	f := opened(t, d, yard.New())
	if ats(f) != "1.1@0" || f.Gen(5) != 7 || f.Gen(1) != 1 || f.Gen(12) != 7 {
		t.Error(ats(f), f.Gen(5))
	}
	if r, ok := f.Rules(); !ok || r.Name(0) != "a" {
		t.Error(r, ok)
	}
}

// TestOpenRepairs: the ledger and the journal are opened, in this order, and cut where they are not complete.
func TestOpenRepairs(t *testing.T) {
	y, d, f := began(t, "a", "x")
	write(t, y, "log", "x\n")
	poll(t, f)
	d.Append("ledger", []byte("rest"))
	d.Append("journal", []byte("rest"))
	d.Append("journal.new", []byte("rest"))
	d.Mark()
	f = opened(t, d, y)
	if d.Count() != 3 || ats(f) != "1.1@2" || len(f.Query(0)) != 1 || !slices.Equal(d.Names(), []string{"journal", "ledger"}) {
		t.Error(d.Count(), ats(f), d.Names())
	}
	d.Back(1)
	if b, _ := d.Read("ledger"); string(b[len(b)-4:]) == "rest" || len(d.Names()) != 3 {
		t.Error("the journal was opened first")
	}
}

func TestAskAndServe(t *testing.T) {
	y := yard.New()
	f := opened(t, disk.New(), y)
	if l := f.Serve(); len(l) != 0 {
		t.Error(l)
	}
	s := set("a", "x")
	for i, s := range []api.Set{s, set("b", "("), set("c", "x"), set("c", "x", "c", "y")} {
		if !f.Ask(s) {
			t.Error(i)
		}
	}
	s.Rules[0].Name = "changed"
	if f.Ask(set("d", "x")) {
		t.Error("a full box")
	}
	if _, ok := f.Rules(); ok {
		t.Error("Ask loads")
	}
	if l := f.Serve(); !slices.Equal(l, []api.Errno{api.OK, api.ErrForm, api.OK, api.ErrTaken}) {
		t.Error(l)
	}
	if r, ok := f.Rules(); !ok || r.Name(0) != "c" {
		t.Error(r, ok)
	}
	if l := f.Serve(); len(l) != 0 || !f.Ask(set("d", "x")) {
		t.Error(l)
	}
	if l := f.Serve(); !slices.Equal(l, []api.Errno{api.OK}) {
		t.Error(l)
	}
}

func TestAskKeepsACopy(t *testing.T) {
	d, y := disk.New(), yard.New()
	f := opened(t, d, y)
	s := set("a", "x")
	f.Ask(s)
	s.Rules[0].Name = "b"
	f.Serve()
	if r, ok := f.Rules(); !ok || r.Name(0) != "a" {
		t.Error("the set is shared")
	}
	f.Ask(set("c", "x"))
	f = opened(t, d, y)
	if l := f.Serve(); len(l) != 0 {
		t.Error("what was asked for outlives the follower", l)
	}
}

// TestFullDisk: a file whose records or point find no room stays where it was, and the others go on.
func TestFullDisk(t *testing.T) {
	y, d, f := began(t, "a", "x")
	write(t, y, "one", "x\n")
	write(t, y, "two", "y\n")
	poll(t, f)
	before := ats(f)
	write(t, y, "one", "x\nx\nx\n")
	write(t, y, "two", "y\n")
	b, _ := d.Read("ledger")
	room := 2*len(b) + 10
	d.Append("other", make([]byte, api.MaxDisk-d.Total()-room))
	want := []follow.Told{{Ino: 1, Why: api.ErrFull}, {Ino: 2, Why: api.ErrFull}}
	for range 2 {
		if l := f.Poll(); !slices.Equal(l, want) || ats(f) != before || len(f.Query(0)) != 3 {
			t.Error(l, ats(f), f.Query(0))
		}
	}
	if e, n := f.Load(set("b", "y")); e != api.ErrFull || n != 0 || ats(f) != before {
		t.Error(e, n)
	}
	if r, _ := f.Rules(); r.Name(0) != "a" {
		t.Error(r.Name(0))
	}
	y.Remove("one")
	if l := f.Poll(); !slices.Equal(l, want) || ats(f) != before {
		t.Error(l, ats(f))
	}
	d.Remove("other")
	if poll(t, f); ats(f) != "2.1@4" || f.Gen(1) != 1 {
		t.Error(ats(f))
	}
	has(t, f, match(1, 1, 0, "a", 0, 1), match(1, 1, 2, "a", 0, 1), match(1, 1, 4, "a", 0, 1))
}

func TestErrorsInOrder(t *testing.T) {
	y, d, f := began(t, "a", "x")
	for i := range 10 {
		write(t, y, strconv.Itoa(i), "y\n")
	}
	f.Poll()
	d.Append("other", make([]byte, api.MaxDisk-d.Total()))
	y.Remove("5")
	y.Remove("2")
	y.Append("0", []byte("z"))
	want := []follow.Told{{Ino: 3, Why: api.ErrFull}, {Ino: 6, Why: api.ErrFull}, {Ino: 1, Why: api.ErrFull}, {Ino: 9, Why: api.ErrMany}, {Ino: 10, Why: api.ErrMany}}
	if l := f.Poll(); !slices.Equal(l, want) {
		t.Error(l)
	}
}

func TestMemory(t *testing.T) {
	y, _, f := began(t, "a", "x", "^ ")
	write(t, y, "log", "x\n y\xE2")
	poll(t, f)
	want := f.Entries()
	e := f.Entries()
	e[0].Cur.Held[0] = 0
	e[0].Alt.Lists[0].Threads[0] = api.Thread{}
	e[0].Cur.Lists[0] = api.List{}
	e[0].Ends[0] = api.List{}
	e[0] = api.Entry{}
	if !reflect.DeepEqual(f.Entries(), want) {
		t.Error("entries share memory")
	}
	write(t, y, "log", "\nz\n")
	poll(t, f)
	l := f.Query(0)
	l[0] = api.Record{}
	has(t, f, match(1, 1, 0, "a", 0, 1))
}
