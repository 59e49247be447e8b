package vm

import (
	"spoor/api"
	"spoor/check"
)

// maxPlace is the greatest position of a machine.
const maxPlace = 1 << 40

// Well reports whether m is a well-formed state for p.
func Well(p api.Prog, m api.Machine) bool {
	if !check.Right(p) || m.Place < 0 || m.Place > maxPlace || len(m.Lists) != len(p.Starts) {
		return false
	}
	for rule, l := range m.Lists {
		if !l.Done && l.Best != none() || !within(l.Best, m.Place) || !wellThreads(l.Threads, m.Place, resting(p, rule)) {
			return false
		}
	}
	return true
}

// within reports whether all positions are known up to place, or unknown.
func within(c api.Caps, place int) bool {
	for _, x := range c {
		if x < -1 || x > place {
			return false
		}
	}
	return true
}

// wellThreads reports whether each thread waits where the rule lets it, and alone.
func wellThreads(l []api.Thread, place int, free []bool) bool {
	for _, t := range l {
		if t.Pc < 0 || t.Pc >= len(free) || !free[t.Pc] || !within(t.Caps, place) {
			return false
		}
		free[t.Pc] = false
	}
	return true
}

// resting tells of each instruction whether a thread of the rule may wait there.
func resting(p api.Prog, rule int) []bool {
	free := make([]bool, len(p.Code))
	free[p.Starts[rule]] = true
	for _, i := range check.Reach(p, rule) {
		if p.Code[i].Op == api.IClass {
			free[i+1] = true
		}
	}
	return free
}
