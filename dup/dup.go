// Package dup copies values of package api, so that the copy shares no memory with them.
package dup

import (
	"slices"

	"spoor/api"
)

// Prog returns a copy of p.
func Prog(p api.Prog) api.Prog {
	code := slices.Clone(p.Code)
	for i := range code {
		code[i].Ranges = slices.Clone(code[i].Ranges)
	}
	return api.Prog{Code: code, Starts: slices.Clone(p.Starts)}
}

// Lists returns a copy of l.
func Lists(l []api.List) []api.List {
	out := slices.Clone(l)
	for i := range out {
		out[i].Threads = slices.Clone(out[i].Threads)
	}
	return out
}

// Machine returns a copy of m.
func Machine(m api.Machine) api.Machine {
	return api.Machine{Place: m.Place, Lists: Lists(m.Lists)}
}
