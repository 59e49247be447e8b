package script_test

import (
	"reflect"
	"slices"
	"strconv"
	"strings"
	"testing"

	"spoor/api"
	"spoor/event"
	"spoor/follow"
	"spoor/journal"
	"spoor/rules"
	"spoor/script"
	"spoor/stream"
)

// set makes a rule set of names and texts by turns; a last one alone is the continuation pattern.
func set(l ...string) api.Set {
	var s api.Set
	for ; len(l) > 1; l = l[2:] {
		s.Rules = append(s.Rules, api.Pattern{Name: l[0], Text: l[1]})
	}
	if len(l) == 1 {
		s.Cont = l[0]
	}
	return s
}

func load(l ...string) api.Step {
	return api.Step{Kind: api.FLoad, Set: set(l...)}
}

func create(name string) api.Step {
	return api.Step{Kind: api.WCreate, Name: name}
}

func add(name, data string) api.Step {
	return api.Step{Kind: api.WAppend, Name: name, Data: []byte(data)}
}

func rename(name, to string) api.Step {
	return api.Step{Kind: api.WRename, Name: name, To: to}
}

func cut(name string, n int) api.Step {
	return api.Step{Kind: api.WCut, Name: name, N: n}
}

func remove(name string) api.Step {
	return api.Step{Kind: api.WRemove, Name: name}
}

func query(n int) api.Step {
	return api.Step{Kind: api.FQuery, N: n}
}

func crash(n int) api.Step {
	return api.Step{Kind: api.FCrash, N: n}
}

var poll, open = api.Step{Kind: api.FPoll}, api.Step{Kind: api.FOpen}

func match(ino, gen, at int, rule string, l ...int) api.Record {
	r := api.Record{Key: api.Key{Ino: ino, Gen: gen, At: at, Rule: rule}, Kind: api.FMatch}
	for i := range r.Caps {
		r.Caps[i] = -1
		if i < len(l) {
			r.Caps[i] = l[i]
		}
	}
	return r
}

func long(ino, gen, at int) api.Record {
	return api.Record{Key: api.Key{Ino: ino, Gen: gen, At: at}, Kind: api.FLong}
}

// same compares results; empty slices are the same.
func same(a, b script.Out) bool {
	return a.Why == b.Why && a.At == b.At && slices.Equal(a.Told, b.Told) && slices.Equal(a.Records, b.Records)
}

// ats writes how far files are read: their numbers, generations and positions.
func ats(w *script.World) string {
	var l []string
	for _, e := range w.Follower().Entries() {
		l = append(l, strconv.Itoa(e.Ino)+"."+strconv.Itoa(e.Gen)+"@"+strconv.Itoa(e.At))
	}
	return strings.Join(l, " ")
}

// run executes steps of which the writer's must not fail, and returns the last result.
func run(t *testing.T, w *script.World, l ...api.Step) script.Out {
	t.Helper()
	var last script.Out
	for i, out := range w.Run(l...) {
		if out.Why != api.OK {
			t.Fatalf("step %d: %d", i, out.Why)
		}
		last = out
	}
	return last
}

func TestNew(t *testing.T) {
	w := script.New()
	if w.Yard() == nil || w.Disk() == nil || w.Follower() == nil || len(w.Yard().Files()) != 0 || len(w.Disk().Names()) != 0 || len(w.Follower().Entries()) != 0 {
		t.Error("a new world is not empty")
	}
	if other := script.New(); other.Yard() == w.Yard() || other.Disk() == w.Disk() || other.Follower() == w.Follower() {
		t.Error("two worlds share their parts")
	}
	if out := w.Run(); len(out) != 0 {
		t.Error(out)
	}
}

func TestExampleRun(t *testing.T) {
	w := script.New()
	out := w.Run(load("a", "x+"), create("log"), add("log", "x\n"), poll, query(0), crash(0), query(0))
	one := script.Out{Records: []api.Record{match(1, 1, 0, "a", 0, 1)}}
	for i, want := range []script.Out{{}, {}, {}, {}, one, {}, one} {
		if !same(out[i], want) {
			t.Errorf("step %d: %v", i, out[i])
		}
	}
	out = w.Run(poll, crash(1), query(0))
	if !same(out[2], one) {
		t.Error(out)
	}
	if o := w.Do(api.Step{}); !same(o, script.Out{Why: api.ErrArg}) {
		t.Error(o)
	}
	if o := w.Do(remove("q")); !same(o, script.Out{Why: api.ErrNone}) {
		t.Error(o)
	}
}

func TestStepsOfTheWriter(t *testing.T) {
	w := script.New()
	for i, c := range []struct {
		s api.Step
		e api.Errno
	}{
		{create("a"), api.OK}, {create("a"), api.ErrTaken}, {create(""), api.ErrPath}, {add("a", "abc"), api.OK}, {add("b", "abc"), api.ErrNone}, {add("a", strings.Repeat("x", api.MaxFile)), api.ErrFull},
		{rename("a", "b"), api.OK}, {rename("a", "c"), api.ErrNone}, {rename("b", " "), api.ErrPath}, {cut("b", 4), api.ErrArg}, {cut("b", -1), api.ErrArg}, {cut("b", 2), api.OK}, {cut("c", 0), api.ErrNone},
		{create("d"), api.OK}, {remove("d"), api.OK}, {remove("d"), api.ErrNone},
		{api.Step{Kind: -1}, api.ErrArg}, {api.Step{Kind: api.FOpen + 1}, api.ErrArg}, {api.Step{}, api.ErrArg},
	} {
		if o := w.Do(c.s); !same(o, script.Out{Why: c.e}) {
			t.Errorf("step %d: %v", i, o)
		}
	}
	if l := w.Yard().Files(); !slices.Equal(l, []api.File{{Ino: 1, Name: "b", Size: 2}}) {
		t.Error(l)
	}
	b, _ := w.Yard().Read(1, 0, 9)
	if string(b) != "ab" || w.Yard().Taken(1) != 2 {
		t.Error(string(b), w.Yard().Taken(1))
	}
}

func TestStepsOfTheFollower(t *testing.T) {
	w := script.New()
	if o := w.Do(poll); !same(o, script.Out{}) {
		t.Error(o)
	}
	for i, c := range []struct {
		s    api.Step
		want script.Out
	}{
		{load("a", "x", "b", "("), script.Out{Why: api.ErrForm, At: 1}}, {load("a", "x", "*"), script.Out{Why: api.ErrForm, At: 1}}, {load("a", "x"), script.Out{}}, {load("a", "x"), script.Out{}}, {query(0), script.Out{}}, {open, script.Out{}}, {crash(-1), script.Out{}}, {crash(5), script.Out{}},
	} {
		if o := w.Do(c.s); !same(o, c.want) {
			t.Errorf("step %d: %v", i, o)
		}
	}
	for i := range 9 {
		run(t, w, create(strconv.Itoa(i)), add(strconv.Itoa(i), "x\n"))
	}
	if o := w.Do(poll); !same(o, script.Out{Told: []follow.Told{{Ino: 9, Why: api.ErrMany}}}) {
		t.Error(o)
	}
	if o := w.Do(query(6)); !same(o, script.Out{Records: []api.Record{match(7, 1, 0, "a", 0, 1), match(8, 1, 0, "a", 0, 1)}}) {
		t.Error(o)
	}
	if o := w.Do(query(8)); !same(o, script.Out{}) {
		t.Error(o)
	}
}

func TestWithoutAFollower(t *testing.T) {
	w := script.New()
	run(t, w, load("a", "x"), create("log"), add("log", "x\n"))
	j, _ := journal.Open(w.Disk())
	j.Set(journal.Change{Slot: 0, Data: "x"})
	if o := w.Do(open); !same(o, script.Out{Why: api.ErrForm}) || w.Follower() != nil {
		t.Error(o)
	}
	for i, s := range []api.Step{poll, load("a", "x"), load("a", "("), query(0)} {
		if o := w.Do(s); !same(o, script.Out{Why: api.ErrNone}) || w.Follower() != nil {
			t.Errorf("step %d: %v", i, o)
		}
	}
	if o := w.Do(crash(0)); !same(o, script.Out{Why: api.ErrForm}) || w.Follower() != nil {
		t.Error(o)
	}
	run(t, w, add("log", "y\n"))
	j, _ = journal.Open(w.Disk())
	j.Set(journal.Change{Slot: 0, Data: ""})
	if o := w.Do(open); !same(o, script.Out{}) || w.Follower() == nil {
		t.Error(o)
	}
}

func TestMarks(t *testing.T) {
	w := script.New()
	run(t, w, load("a", "x"), create("log"), add("log", "x\n"), poll)
	if w.Disk().Count() == 0 {
		t.Error("nothing was written since the mark")
	}
	// Every step sets a mark, also one that can't be, and one that writes nothing.
	for _, s := range []api.Step{query(0), create("other"), poll, {}, remove("nothing")} {
		w.Do(s)
		n := len(w.Follower().Query(0))
		if o := w.Do(crash(0)); o.Why != api.OK || len(w.Follower().Query(0)) != n || n != 1 {
			t.Error(s.Kind, o)
		}
	}
	// A crash sets none but that of Back: the writes of the opening may be lost, too.
	run(t, w, add("log", "x\n"), poll)
	total := w.Disk().Count()
	run(t, w, crash(total-1))
	left := w.Disk().Count()
	if left == 0 || left > total {
		t.Error("the opening cuts what is not complete", left, total)
	}
	if run(t, w, crash(0)); w.Disk().Count() != left {
		t.Error("the second opening has the same to do", w.Disk().Count(), left)
	}
	run(t, w, crash(left), poll)
	if w.Disk().Count() == 0 || len(w.Follower().Query(0)) != 2 {
		t.Error(w.Follower().Query(0))
	}
}

// TestTenExamples goes through the examples of the whole system.
func TestTenExamples(t *testing.T) {
	w := script.New()
	out := run(t, w, load("a", "x+"), create("log"), add("log", "xx\ny"), poll, query(0))
	if !same(out, script.Out{Records: []api.Record{match(1, 1, 0, "a", 0, 2)}}) || ats(w) != "1.1@4" {
		t.Error(1, out, ats(w))
	}
	if out = run(t, w, add("log", "x\n"), poll, query(1)); !same(out, script.Out{Records: []api.Record{match(1, 1, 3, "a", 1, 2)}}) {
		t.Error(2, out)
	}
	v := script.New()
	run(t, v, load("a", "b", "^ "), create("log"), add("log", "a\n b\n"), poll, add("log", "c"), poll)
	if out = run(t, v, query(0)); len(out.Records) != 0 {
		t.Error(3, out)
	}
	if out = run(t, v, add("log", "\n"), poll, query(0)); !same(out, script.Out{Records: []api.Record{match(1, 1, 0, "a", 3, 4)}}) {
		t.Error(3, out)
	}
	run(t, w, rename("log", "old"), create("log"), poll)
	if ats(w) != "1.1@6 2.1@0" || len(w.Follower().Query(0)) != 2 {
		t.Error(4, ats(w))
	}
	if out = run(t, w, cut("old", 0), add("old", "x\n"), poll, query(2)); !same(out, script.Out{Records: []api.Record{match(1, 2, 0, "a", 0, 1)}}) || ats(w) != "1.2@2 2.1@0" {
		t.Error(5, out, ats(w))
	}
	if out = run(t, w, add("log", strings.Repeat("x", 201)+"xx\n"), poll, query(3)); !same(out, script.Out{Records: []api.Record{long(2, 1, 0)}}) || ats(w) != "1.2@2 2.1@204" {
		t.Error(6, out, ats(w))
	}
	run(t, w, add("old", "x\n"), poll)
	run(t, w, open, poll, add("old", "ax"), poll, load("a", "x+", "b", "a"))
	if ats(w) != "1.2@4 2.1@204" {
		t.Error(8, ats(w))
	}
	if out = run(t, w, add("old", "\n"), poll, query(5)); !same(out, script.Out{Records: []api.Record{match(1, 2, 4, "a", 1, 2), match(1, 2, 4, "b", 0, 1)}}) {
		t.Error(8, out)
	}
	nine := script.New()
	run(t, nine, load("a", "x"))
	for i := range 9 {
		run(t, nine, create(strconv.Itoa(i)))
	}
	for range 2 {
		if out = nine.Do(poll); !same(out, script.Out{Told: []follow.Told{{Ino: 9, Why: api.ErrMany}}}) {
			t.Error(9, out)
		}
	}
	if out = run(t, nine, remove("4"), poll); len(out.Told) != 0 || len(nine.Follower().Entries()) != 8 || nine.Follower().Gen(9) != 1 {
		t.Error(9, out)
	}
}

// TestLedgerAheadOfCheckpoint is the seventh example: records that were stored are not stored again.
func TestLedgerAheadOfCheckpoint(t *testing.T) {
	want := []api.Record{match(1, 1, 0, "a", 0, 1), match(1, 1, 2, "a", 0, 1), match(1, 1, 4, "a", 0, 1)}
	ahead := 0
	for k := 0; ; k++ {
		w := script.New()
		run(t, w, load("a", "x"), create("log"), add("log", "x\n"), poll, add("log", "x\nx\n"), poll)
		total := w.Disk().Count()
		if k == total {
			break
		}
		run(t, w, crash(k))
		out := run(t, w, query(0))
		if n := len(out.Records); ats(w) != "1.1@2" || n < 1 || !slices.Equal(out.Records, want[:n]) {
			t.Error(k, ats(w), out)
		}
		if len(out.Records) == 3 {
			ahead++
		}
		if out = run(t, w, poll, query(0)); !slices.Equal(out.Records, want) || ats(w) != "1.1@6" {
			t.Error(k, ats(w), out)
		}
	}
	if ahead == 0 {
		t.Error("the power never failed between the ledger and the checkpoint")
	}
}

// TestTheJournalStaysSmall lets a script go on until the journal is rewritten, and then lets the power fail at each point of that (the tenth example, T5).
func TestTheJournalStaysSmall(t *testing.T) {
	w := script.New()
	run(t, w, load("a", "(a|b|c)+x", "b", "q", "^ "), create("log"))
	more := func() (int, int) {
		old := w.Follower().Entries()[0].At
		run(t, w, add("log", "abc abc\n "), poll)
		b, _ := w.Disk().Read("journal")
		return old, len(b)
	}
	run(t, w, poll)
	size := 0
	for {
		_, n := more()
		if n > api.Enough {
			t.Fatal("the journal has", n)
		}
		if n < size {
			break
		}
		size = n
	}
	run(t, w, crash(0))
	// The power fails before the rewriting is complete: it is begun again by the next poll that has something to store.
	kept, lost := 0, 0
	for k := 0; ; k++ {
		old, _ := more()
		now := w.Follower().Entries()[0].At
		total := w.Disk().Count()
		if k == total {
			break
		}
		run(t, w, crash(k))
		switch w.Follower().Entries()[0].At {
		case old:
			lost++
		case now:
			kept++
		default:
			t.Fatal(k, ats(w))
		}
		if names := w.Disk().Names(); !slices.Equal(names, []string{"journal"}) {
			t.Fatal(k, names)
		}
	}
	if b, _ := w.Disk().Read("journal"); kept == 0 || lost == 0 || len(b) > api.Enough/2 {
		t.Error(kept, lost, len(b))
	}
	want := ats(w)
	if run(t, w, open, poll); ats(w) != want {
		t.Error(ats(w), want)
	}
}

type dice uint32

func (d *dice) roll(n int) int {
	*d = *d*1664525 + 1013904223
	return int(uint32(*d)>>8) % n
}

var sets = [][]string{{"a", "x+", "b", "(y)|z$", "^ "}, {"a", "x+", "b", "(y)|z$"}, {"c", "é|\uFFFD", "^ |^$"}, {"b", "$", "c", "x.?"}, {}}

// step makes any step that is no crash.
func (d *dice) step() api.Step {
	name, to := []string{"a", "b", "c"}[d.roll(3)], []string{"a", "b", "c"}[d.roll(3)]
	switch k := d.roll(20); {
	case k < 2:
		return create(name)
	case k < 9:
		text := ""
		for range 1 + d.roll(5) {
			text += []string{"x", "y\n", "\n", " z", "\n ", "xx\n", "é", "\xE2", strings.Repeat("y", 201), "q"}[d.roll(10)]
		}
		return add(name, text)
	case k == 9:
		return rename(name, to)
	case k == 10:
		return cut(name, d.roll(9))
	case k == 11:
		return remove(name)
	case k == 12:
		return load(sets[d.roll(len(sets))]...)
	case k == 13:
		return query(d.roll(5))
	}
	return poll
}

// world tells all that can be seen of a world.
func world(w *script.World) []any {
	var l []any
	for _, f := range w.Yard().Files() {
		l = append(l, f)
	}
	for _, r := range w.Follower().Query(0) {
		l = append(l, r)
	}
	for _, e := range w.Follower().Entries() {
		l = append(l, e.Ino, e.Gen, e.Head, string(stream.Put(nil, e.Stream)))
	}
	for ino := range api.MaxYard {
		l = append(l, w.Follower().Gen(ino+1))
	}
	r, ok := w.Follower().Rules()
	if ok {
		l = append(l, string(rules.Put(nil, r.Set())))
	}
	b, _ := w.Disk().Read("ledger")
	return append(l, string(b))
}

// TestFailures holds worlds in which the power fails against one in which it does not (T2, P29.3).
func TestFailures(t *testing.T) {
	d := dice(1)
	for range 40 {
		calm, rough, reopened := script.New(), script.New(), script.New()
		for range 70 {
			s := d.step()
			want := calm.Do(s)
			if out := reopened.Do(s); !same(out, want) {
				t.Fatalf("%v: %v, not %v", s, out, want)
			}
			if out := reopened.Do(open); !same(out, script.Out{}) {
				t.Fatal(out)
			}
			before := rough.Follower().Query(0)
			rough.Do(s)
			if s.Kind == api.FPoll || s.Kind == api.FLoad {
				for range d.roll(3) {
					for range 1 + d.roll(3) {
						if out := rough.Do(crash(d.roll(rough.Disk().Count() + 1))); !same(out, script.Out{}) {
							t.Fatal(out)
						}
					}
					now := rough.Follower().Query(0)
					all := calm.Follower().Query(0)
					if len(now) < len(before) || len(now) > len(all) || !slices.Equal(now, all[:len(now)]) {
						t.Fatalf("records %v, between %v and %v", now, before, all)
					}
					if out := rough.Do(s); !same(out, want) {
						t.Fatalf("%v again: %v, not %v", s, out, want)
					}
				}
			}
			if a, b, c := world(calm), world(rough), world(reopened); !reflect.DeepEqual(a, b) || !reflect.DeepEqual(a, c) {
				t.Fatalf("after %v: %v, %v, %v", s, a, b, c)
			}
		}
	}
}

// TestRecordsOfAGeneration: the records of a file that only grows are what its events have.
func TestRecordsOfAGeneration(t *testing.T) {
	d := dice(3)
	for _, l := range sets {
		w := script.New()
		r, _, _ := rules.Load(set(l...))
		run(t, w, load(l...), create("log"))
		text := ""
		for range 40 {
			part := []string{"x", "y\n", "\n", " z", "\n ", "xx\n", "é", "\xE2", strings.Repeat("y", 201), "q\n"}[d.roll(10)]
			text += part
			run(t, w, add("log", part), poll)
			var want []api.Record
			for _, x := range event.Finds(r, []byte(text)) {
				want = append(want, api.Record{Key: api.Key{Ino: 1, Gen: 1, At: x.At}, Kind: x.Kind, Caps: x.Caps})
				if x.Kind == api.FMatch {
					want[len(want)-1].Rule = r.Name(x.Rule)
				}
			}
			if got := w.Follower().Query(0); !slices.Equal(got, want) {
				t.Fatalf("%q: %v, not %v", text, got, want)
			}
		}
	}
}
