package follow_test

import (
	"slices"
	"strings"
	"testing"

	"spoor/api"
	"spoor/disk"
	"spoor/event"
	"spoor/follow"
	"spoor/rules"
	"spoor/yard"
)

// model is what the document asks of a follower, worked out from whole texts.
type model struct {
	files   map[int]*modelFile
	rules   *rules.Rules
	records []api.Record
}

// modelFile is a file: seen are the bytes that were read of this generation, and base is where the rules of now began with them.
type modelFile struct {
	live bool
	gen  int
	seen string
	base int
	head string
}

func (m *model) alive() int {
	n := 0
	for _, f := range m.files {
		if f.live {
			n++
		}
	}
	return n
}

// poll reads the files of y, a yard that nobody else reads.
func (m *model) poll(y *yard.Yard) []follow.Told {
	if m.rules == nil {
		return nil
	}
	var told []follow.Told
	text := map[int]string{}
	for _, x := range y.Files() {
		b, _ := y.Read(x.Ino, 0, x.Size)
		text[x.Ino] = string(b)
	}
	for ino, f := range m.files {
		if _, there := text[ino]; !there && f.live {
			*f = modelFile{gen: f.gen}
		}
	}
	for ino := 1; ino <= api.MaxYard; ino++ {
		s, there := text[ino]
		if !there {
			continue
		}
		f := m.files[ino]
		if f == nil {
			f = &modelFile{}
		}
		if !f.live && m.alive() >= api.MaxFiles {
			told = append(told, follow.Told{Ino: ino, Why: api.ErrMany})
			continue
		}
		m.files[ino] = f
		if !f.live || len(s) < len(f.seen) || !strings.HasPrefix(s, f.head) {
			*f = modelFile{live: true, gen: f.gen + 1}
		}
		f.head = s[:min(len(s), api.HeadLen)]
		f.seen += s[len(f.seen):]
		for _, x := range event.Finds(m.rules, []byte(f.seen[f.base:])) {
			r := api.Record{Key: api.Key{Ino: ino, Gen: f.gen, At: f.base + x.At}, Kind: x.Kind, Caps: x.Caps}
			if x.Kind == api.FMatch {
				r.Rule = m.rules.Name(x.Rule)
			}
			if !slices.ContainsFunc(m.records, func(o api.Record) bool { return o.Key == r.Key }) {
				m.records = append(m.records, r)
			}
		}
	}
	return told
}

// load lets the open event or line of each file be read again.
func (m *model) load(s api.Set) {
	if m.rules != nil && slices.Equal(m.rules.Set().Rules, s.Rules) && m.rules.Set().Cont == s.Cont {
		return
	}
	old := m.rules
	m.rules, _, _ = rules.Load(s)
	for _, f := range m.files {
		if !f.live {
			continue
		}
		part := f.seen[f.base:]
		_, open, some := event.Spans(old, []byte(part))
		if some {
			f.base += open.From
		} else {
			f.base += strings.LastIndexByte(part, '\n') + 1
		}
		f.seen = f.seen[:f.base]
	}
}

// check compares a follower with the model.
func (m *model) check(t *testing.T, f *follow.Follower) {
	t.Helper()
	if l := f.Query(0); !slices.Equal(l, m.records) {
		t.Fatalf("records %v, not %v", l, m.records)
	}
	n := 0
	for _, e := range f.Entries() {
		x := m.files[e.Ino]
		if x == nil || !x.live || e.Gen != x.gen || e.At != len(x.seen) || e.Len != len(x.head) {
			t.Fatalf("entry %v, not %v", e, x)
		}
		n++
	}
	for ino, x := range m.files {
		if f.Gen(ino) != x.gen {
			t.Fatalf("generation %d of %d, not %d", f.Gen(ino), ino, x.gen)
		}
	}
	if n != m.alive() {
		t.Fatalf("%d entries, not %d", n, m.alive())
	}
}

type dice uint32

func (d *dice) roll(n int) int {
	*d = *d*1664525 + 1013904223
	return int(uint32(*d)>>8) % n
}

// both are two yards of which one is read by the follower, and the other one by the model.
type both [2]*yard.Yard

// change makes a step of the writer.
func (b both) change(d *dice) {
	name, to := []string{"a", "b", "c", "d"}[d.roll(4)], []string{"a", "b", "c", "d"}[d.roll(4)]
	text := ""
	for range 1 + d.roll(5) {
		text += []string{"x", "y\n", "\n", " z", "\n ", "xx\n", "é", "\xE2", y(90), y(201), "q"}[d.roll(11)]
	}
	kind, cut := d.roll(20), d.roll(100)
	for _, y := range b {
		x, _ := y.Find(name)
		switch kind {
		case 0, 1, 2:
			y.Create(name)
		case 3:
			y.Rename(name, to)
		case 4:
			y.Cut(name, min(x.Size, cut))
		case 5:
			y.Cut(name, 0)
		case 6:
			y.Remove(name)
		case 7:
			y.Remove(name)
			y.Create(name)
			y.Append(name, []byte(text))
		default:
			y.Append(name, []byte(text))
		}
	}
}

var sets = []api.Set{
	set("a", "x+", "b", "(y)|z$", "^ "), set("a", "x+", "b", "(y)|z$"), set("c", "é|\uFFFD", "^ |^$"), set("a", "x+", "c", "$", "^ "), set("^ "), {},
}

// TestModel holds followers against the model, through scripts without failures.
func TestModel(t *testing.T) {
	d := dice(1)
	for range 60 {
		m := model{files: map[int]*modelFile{}}
		w := both{yard.New(), yard.New()}
		disk := disk.New()
		f := opened(t, disk, w[0])
		for range 80 {
			switch k := d.roll(10); {
			case k < 5:
				w.change(&d)
			case k == 5:
				s := sets[d.roll(len(sets))]
				if e, _ := f.Load(s); e != api.OK {
					t.Fatal(e)
				}
				m.load(s)
			case k == 6:
				f = opened(t, disk, w[0])
			default:
				if got, want := f.Poll(), m.poll(w[1]); !slices.Equal(got, want) {
					t.Fatal(got, want)
				}
			}
			m.check(t, f)
		}
	}
}

// state is what a follower has to say.
type state struct {
	records []api.Record
	points  [api.MaxYard + 1]string
}

func stateOf(f *follow.Follower) state {
	s := state{records: f.Query(0)}
	for ino := range s.points {
		s.points[ino] = string(rune('0'+f.Gen(ino))) + "gone"
	}
	for _, e := range f.Entries() {
		s.points[e.Ino] = string(rune('0'+e.Gen)) + "@" + string(rune(e.At)) + string(rune(e.Line)) + string(rune(e.Len))
	}
	return s
}

// between checks what is left after a failure: the records and points are those of some moment of the step.
func between(t *testing.T, before, now, after state) {
	t.Helper()
	n := len(now.records)
	if n < len(before.records) || n > len(after.records) || !slices.Equal(now.records, after.records[:n]) {
		t.Fatalf("records %v, between %v and %v", now.records, before.records, after.records)
	}
	for ino, p := range now.points {
		if p != before.points[ino] && p != after.points[ino] {
			t.Fatalf("the point of %d is %q, neither %q nor %q", ino, p, before.points[ino], after.points[ino])
		}
	}
}

// TestFailures lets the power fail in the middle of steps, and of openings, and makes each step again: all is as if it had not failed.
func TestFailures(t *testing.T) {
	d := dice(2)
	for range 60 {
		m := model{files: map[int]*modelFile{}}
		w := both{yard.New(), yard.New()}
		disk := disk.New()
		f := opened(t, disk, w[0])
		for range 60 {
			k := d.roll(10)
			if k < 6 {
				w.change(&d)
				continue
			}
			s := sets[d.roll(len(sets))]
			step := func() {
				if k == 6 {
					f.Load(s)
				} else {
					f.Poll()
				}
			}
			before := stateOf(f)
			disk.Mark()
			step()
			if k == 6 {
				m.load(s)
			} else {
				m.poll(w[1])
			}
			after := stateOf(f)
			m.check(t, f)
			for range d.roll(4) {
				disk.Back(d.roll(disk.Count() + 2))
				for range d.roll(3) {
					opened(t, disk, w[0])
					disk.Back(d.roll(disk.Count() + 1))
				}
				f = opened(t, disk, w[0])
				between(t, before, stateOf(f), after)
				disk.Mark()
				step()
				m.check(t, f)
			}
		}
	}
}

// TestFailureAtEachWrite lets the power fail at each point of a step that does all that a poll can do.
func TestFailureAtEachWrite(t *testing.T) {
	first := func() (*yard.Yard, *disk.Disk, *follow.Follower) {
		y, d, f := began(t, "a", "x+", "^ ")
		for i, text := range []string{"x\n y", "x\nx\n", "q\nx\n", "xx"} {
			write(t, y, string(rune('a'+i)), text)
		}
		poll(t, f)
		y.Remove("a")
		write(t, y, "b", "x\n\n x\nz")
		y.Cut("c", 0)
		write(t, y, "c", "x\n\n")
		write(t, y, "e", "x\nx\nx\n")
		d.Mark()
		return y, d, f
	}
	_, _, f := first()
	before := stateOf(f)
	poll(t, f)
	after := stateOf(f)
	for k := 0; ; k++ {
		y, d, f := first()
		f.Poll()
		if k > d.Count() {
			break
		}
		d.Back(k)
		f = opened(t, d, y)
		between(t, before, stateOf(f), after)
		poll(t, f)
		between(t, after, stateOf(f), after)
	}
	for k := 0; ; k++ {
		y, d, f := first()
		s := set("b", "x|y|z", "^ ")
		f.Load(s)
		done := stateOf(f)
		if k > d.Count() {
			break
		}
		total := d.Count()
		d.Back(k)
		f = opened(t, d, y)
		between(t, before, stateOf(f), done)
		r, _ := f.Rules()
		if (r.Name(0) == "b") != (k == total) {
			t.Fatalf("%d of %d writes: rule %s", k, total, r.Name(0))
		}
		if r.Name(0) == "a" {
			// None of the points is that of the new rules.
			between(t, before, stateOf(f), before)
		}
		f.Load(s)
		between(t, done, stateOf(f), done)
	}
}
