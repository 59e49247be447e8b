package ledger

import (
	"spoor/api"
	"spoor/rules"
	"spoor/wire"
)

// maxNumber is the greatest generation, and the greatest position.
const maxNumber = 1 << 40

// Right reports whether r is valid.
func Right(r api.Record) bool {
	if r.Ino < 1 || r.Ino > api.MaxYard || r.Gen < 1 || r.Gen > maxNumber || r.At < 0 || r.At > maxNumber {
		return false
	}
	switch r.Kind {
	case api.FMatch:
		return named(r.Rule) && within(r.Caps)
	case api.FLong:
		return r.Rule == "" && r.Caps == api.Caps{}
	}
	return false
}

// named reports whether a rule may have this name: whether there is a rule set with it.
func named(name string) bool {
	_, err, _ := rules.Load(api.Set{Rules: []api.Pattern{{Name: name}}})
	return err == api.OK
}

// within reports whether all positions can be in an event.
func within(c api.Caps) bool {
	for _, x := range c {
		if x < -1 || x > api.MaxEvent {
			return false
		}
	}
	return true
}

// Put returns the encoding of r.
func Put(r api.Record) []byte {
	if !Right(r) {
		return nil
	}
	b := wire.Num(nil, r.Ino)
	b = wire.Num(b, r.Gen)
	b = wire.Num(b, r.At)
	b = wire.Text(b, r.Rule)
	b = wire.Num(b, r.Kind)
	for _, x := range r.Caps {
		b = wire.Num(b, x+1)
	}
	return b
}

// Get decodes a record.
func Get(b []byte) (api.Record, bool) {
	d := wire.Read(b)
	var r api.Record
	r.Ino = d.Num()
	r.Gen = d.Num()
	r.At = d.Num()
	r.Rule = d.Text(api.MaxName)
	r.Kind = d.Num()
	for i := range r.Caps {
		r.Caps[i] = d.Num() - 1
	}
	if d.End() != api.OK || !Right(r) {
		return api.Record{}, false
	}
	return r, true
}
