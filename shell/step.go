package shell

import (
	"bytes"
	"slices"
	"strings"

	"spoor/api"
)

// maxLine is the number of bytes that a line has at most.
const maxLine = 2000

// Parse returns the step that the line denotes.
func Parse(line string) (api.Step, api.Errno) {
	if len(line) > maxLine {
		return api.Step{}, api.ErrLong
	}
	l, ok := words(line)
	if !ok || l[0].quoted {
		return api.Step{}, api.ErrForm
	}
	s, ok := step(l[0].text, l[1:])
	if !ok {
		return api.Step{}, api.ErrForm
	}
	return s, api.OK
}

// step returns the step that is called by a name and by the words behind it.
func step(name string, l []word) (api.Step, bool) {
	switch name {
	case "create":
		return named(api.WCreate, l)
	case "remove":
		return named(api.WRemove, l)
	case "append":
		return appended(l)
	case "rename":
		return renamed(l)
	case "cut":
		return numbered(api.WCut, l)
	case "poll":
		return api.Step{Kind: api.FPoll}, len(l) == 0
	case "open":
		return api.Step{Kind: api.FOpen}, len(l) == 0
	case "query":
		return counted(api.FQuery, l)
	case "crash":
		return counted(api.FCrash, l)
	case "load":
		return loaded(l)
	}
	return api.Step{}, false
}

// kinds reports whether there are as many words as letters in like, and of these kinds: W plain, Q quoted.
func kinds(l []word, like string) bool {
	if len(l) != len(like) {
		return false
	}
	for i, w := range l {
		if w.quoted != (like[i] == 'Q') {
			return false
		}
	}
	return true
}

func named(kind int, l []word) (api.Step, bool) {
	if !kinds(l, "W") {
		return api.Step{}, false
	}
	return api.Step{Kind: kind, Name: l[0].text}, true
}

func appended(l []word) (api.Step, bool) {
	if !kinds(l, "WQ") {
		return api.Step{}, false
	}
	return api.Step{Kind: api.WAppend, Name: l[0].text, Data: []byte(l[1].text)}, true
}

func renamed(l []word) (api.Step, bool) {
	if !kinds(l, "WW") {
		return api.Step{}, false
	}
	return api.Step{Kind: api.WRename, Name: l[0].text, To: l[1].text}, true
}

func numbered(kind int, l []word) (api.Step, bool) {
	if !kinds(l, "WW") {
		return api.Step{}, false
	}
	n, ok := number(l[1].text)
	return api.Step{Kind: kind, Name: l[0].text, N: n}, ok
}

func counted(kind int, l []word) (api.Step, bool) {
	if !kinds(l, "W") {
		return api.Step{}, false
	}
	n, ok := number(l[0].text)
	return api.Step{Kind: kind, N: n}, ok
}

func loaded(l []word) (api.Step, bool) {
	if !kinds(l, strings.Repeat("WQ", len(l)/2)) {
		return api.Step{}, false
	}
	var s api.Set
	for ; len(l) > 0; l = l[2:] {
		// The same word ahead of others is the name of a rule.
		if l[0].text == "cont" && len(l) == 2 {
			s.Cont = l[1].text
			return api.Step{Kind: api.FLoad, Set: s}, s.Cont != ""
		}
		s.Rules = append(s.Rules, api.Pattern{Name: l[0].text, Text: l[1].text})
	}
	return api.Step{Kind: api.FLoad, Set: s}, true
}

// Line returns the line that denotes s.
func Line(s api.Step) string {
	line := written(s)
	// What the line has no place for, or would be read as something else, is found out by reading it.
	got, err := Parse(line)
	if err != api.OK || !same(got, s) {
		return ""
	}
	return line
}

// written writes a step, as if it had a line.
func written(s api.Step) string {
	switch s.Kind {
	case api.WCreate:
		return "create " + s.Name
	case api.WRemove:
		return "remove " + s.Name
	case api.WAppend:
		return "append " + s.Name + " " + quote(string(s.Data))
	case api.WRename:
		return "rename " + s.Name + " " + s.To
	case api.WCut:
		return "cut " + s.Name + " " + num(s.N)
	case api.FPoll:
		return "poll"
	case api.FOpen:
		return "open"
	case api.FQuery:
		return "query " + num(s.N)
	case api.FCrash:
		return "crash " + num(s.N)
	case api.FLoad:
		return writtenLoad(s.Set)
	}
	return ""
}

func writtenLoad(s api.Set) string {
	l := []string{"load"}
	for _, p := range s.Rules {
		l = append(l, p.Name, quote(p.Text))
	}
	if s.Cont != "" {
		l = append(l, "cont", quote(s.Cont))
	}
	return strings.Join(l, " ")
}

func same(a, b api.Step) bool {
	plain := a.Kind == b.Kind && a.N == b.N && a.Name == b.Name && a.To == b.To
	return plain && bytes.Equal(a.Data, b.Data) && slices.Equal(a.Set.Rules, b.Set.Rules) && a.Set.Cont == b.Set.Cont
}
