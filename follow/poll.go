package follow

import (
	"slices"

	"spoor/api"
	"spoor/ident"
	"spoor/journal"
	"spoor/point"
	"spoor/stream"
)

// Poll examines all files of the yard.
func (f *Follower) Poll() []Told {
	if f.rules == nil {
		return nil
	}
	files := f.yard.Files()
	told := f.leave(files)
	for _, x := range files {
		err := f.examine(x)
		if err != api.OK {
			told = append(told, Told{Ino: x.Ino, Why: err})
		}
	}
	return told
}

// leave follows no more the files that are gone.
func (f *Follower) leave(files []api.File) []Told {
	var told []Told
	for ino, p := range f.points {
		there := slices.ContainsFunc(files, func(x api.File) bool { return x.Ino == ino })
		if !p.Live || there {
			continue
		}
		err := f.keep(point.Point{Entry: api.Entry{Ino: p.Ino, Gen: p.Gen}})
		if err != api.OK {
			told = append(told, Told{Ino: ino, Why: err})
		}
	}
	return told
}

// examine reads what is new of a file, and keeps what is found and how far it was read, in this order: after a failure of the power between the two, the same is found again, and is known.
func (f *Follower) examine(x api.File) api.Errno {
	p := f.points[x.Ino]
	if !p.Live && f.live() >= api.MaxFiles {
		return api.ErrMany
	}
	first, err := f.yard.Read(x.Ino, 0, api.HeadLen)
	if err != api.OK {
		return err
	}
	fresh := !p.Live || !ident.Same(p.Head, p.At, x.Size, first)
	if fresh {
		p = point.Point{Live: true, Entry: api.Entry{Ino: x.Ino, Gen: p.Gen + 1}}
	}
	more, err := f.yard.Read(x.Ino, p.At, x.Size-p.At)
	if err != api.OK {
		return err
	}
	head := ident.Head(first)
	if !fresh && len(more) == 0 && head == p.Head {
		return api.OK
	}
	p.Head = head
	s, err := f.resumed(p, fresh)
	if err != api.OK {
		return err
	}
	err = f.record(p.Entry, s.Feed(more))
	if err != api.OK {
		return err
	}
	p.Stream = s.State()
	return f.keep(p)
}

// live returns the number of files that are followed.
func (f *Follower) live() int {
	n := 0
	for _, p := range f.points {
		if p.Live {
			n++
		}
	}
	return n
}

// resumed returns the stream of a point, or a new one.
func (f *Follower) resumed(p point.Point, fresh bool) (*stream.Stream, api.Errno) {
	if fresh {
		return stream.New(f.rules)
	}
	return stream.Of(f.rules, p.Stream)
}

// record adds what was found in a file to the ledger.
func (f *Follower) record(e api.Entry, l []api.Found) api.Errno {
	for _, x := range l {
		r := api.Record{Key: api.Key{Ino: e.Ino, Gen: e.Gen, At: x.At}, Kind: x.Kind, Caps: x.Caps}
		if x.Kind == api.FMatch {
			r.Rule = f.rules.Name(x.Rule)
		}
		_, err := f.ledger.Add(r)
		if err != api.OK {
			return err
		}
	}
	return api.OK
}

// keep stores a point.
func (f *Follower) keep(p point.Point) api.Errno {
	err := f.journal.Set(journal.Change{Slot: p.Ino, Data: point.Encode(f.rules, p)})
	if err == api.OK {
		f.points[p.Ino] = p
	}
	return err
}

func same(a, b api.Set) bool {
	return a.Cont == b.Cont && slices.Equal(a.Rules, b.Rules)
}

// copied returns a set that shares no memory with s.
func copied(s api.Set) api.Set {
	return api.Set{Rules: slices.Clone(s.Rules), Cont: s.Cont}
}
