package dup_test

import (
	"reflect"
	"testing"

	"spoor/api"
	"spoor/dup"
)

func ranges() []api.Range {
	return append(make([]api.Range, 0, 4), api.Range{Lo: 'a', Hi: 'b'})
}

func TestProg(t *testing.T) {
	p := api.Prog{Code: []api.Ins{{Op: api.IClass, Ranges: ranges()}, {Op: api.IMatch, X: 1}}, Starts: []int{0, 1}}
	c := dup.Prog(p)
	if !reflect.DeepEqual(c, p) {
		t.Error(c)
	}
	c.Code[0].Ranges[0].Lo = 'x'
	c.Code[1].X = 7
	c.Starts[0] = 7
	_ = append(c.Code[0].Ranges, api.Range{Lo: 9, Hi: 9})
	if p.Code[0].Ranges[0].Lo != 'a' || p.Code[1].X != 1 || p.Starts[0] != 0 || p.Code[0].Ranges[:2][1].Lo != 0 {
		t.Error("memory is shared", p)
	}
}

func TestMachine(t *testing.T) {
	m := api.Machine{Place: 5, Lists: []api.List{{Done: true, Threads: []api.Thread{{Pc: 3}}}, {}}}
	c := dup.Machine(m)
	if !reflect.DeepEqual(c, m) {
		t.Error(c)
	}
	c.Lists[0].Threads[0].Pc = 9
	c.Lists[1].Done = true
	if m.Lists[0].Threads[0].Pc != 3 || m.Lists[1].Done {
		t.Error("memory is shared", m)
	}
	l := dup.Lists(m.Lists)
	l[0].Threads[0].Pc = 9
	if m.Lists[0].Threads[0].Pc != 3 {
		t.Error("memory is shared", m)
	}
}
