package stream

import (
	"spoor/api"
	"spoor/rules"
	"spoor/scan"
)

// maxAt is the greatest position of a stream.
const maxAt = 1 << 40

// Well reports whether s is well-formed for r.
func Well(r *rules.Rules, s api.Stream) bool {
	if r == nil || s.Line < 0 || s.Line > s.At || s.At > maxAt || s.Long != (s.At-s.Line > api.MaxLine) {
		return false
	}
	p := r.Prog()
	cont, goes := r.Cont()
	if !wellScan(p, s.Alt, length(s)) {
		return false
	}
	if goes && !wellScan(cont, s.Con, length(s)) || !goes && !zeroScan(s.Con) {
		return false
	}
	if s.Open {
		return goes && !s.Long && wellEvent(p, s)
	}
	return s.Event == 0 && s.Size == 0 && len(s.Ends) == 0 && zeroScan(s.Cur)
}

// length returns the length of the line so far, as a splitter counts it.
func length(s api.Stream) int {
	if s.Long {
		return 0
	}
	return s.At - s.Line
}

// wellScan reports whether s is well-formed and was given n bytes.
func wellScan(p api.Prog, s api.Scan, n int) bool {
	return scan.Well(p, s) && s.Place+len(s.Held) == n
}

func zeroScan(s api.Scan) bool {
	return len(s.Held) == 0 && s.Place == 0 && len(s.Lists) == 0
}

// wellEvent reports whether the open event of s is well-formed.
func wellEvent(p api.Prog, s api.Stream) bool {
	// No sum of what is given: it could be too great for a number.
	if s.Size < 0 || s.Size > api.MaxEvent || s.Event < 0 || s.Event != s.Line-s.Size-1 || len(s.Ends) != len(p.Starts) {
		return false
	}
	for _, l := range s.Ends {
		if !wellEnd(l, s.Size) {
			return false
		}
	}
	return wellScan(p, s.Cur, s.Size+1+length(s))
}

// wellEnd reports whether l can be what a rule finds in an event of so many bytes.
func wellEnd(l api.List, size int) bool {
	if len(l.Threads) > 0 {
		return false
	}
	for _, x := range l.Best {
		if x < -1 || x > size || !l.Done && x != -1 {
			return false
		}
	}
	return true
}
