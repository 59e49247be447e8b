package stream

import (
	"spoor/api"
	"spoor/state"
	"spoor/wire"
)

// Put returns b followed by the state s.
func Put(b []byte, s api.Stream) []byte {
	b = wire.Num(b, s.At)
	b = wire.Num(b, s.Line)
	b = wire.Flag(b, s.Long)
	b = wire.Flag(b, s.Open)
	b = wire.Num(b, s.Event)
	b = wire.Num(b, s.Size)
	b = state.PutLists(b, s.Ends)
	b = state.PutScan(b, s.Cur)
	b = state.PutScan(b, s.Alt)
	return state.PutScan(b, s.Con)
}

// Get decodes a state.
func Get(r *wire.Reader) api.Stream {
	var s api.Stream
	s.At = r.Num()
	s.Line = r.Num()
	s.Long = r.Flag()
	s.Open = r.Flag()
	s.Event = r.Num()
	s.Size = r.Num()
	s.Ends = state.GetLists(r)
	s.Cur = state.GetScan(r)
	s.Alt = state.GetScan(r)
	s.Con = state.GetScan(r)
	if r.Err() != api.OK {
		return api.Stream{}
	}
	return s
}
