package syntax

import (
	"strings"

	"spoor/api"
	"spoor/class"
	"spoor/utf"
)

// What a parser sees where there is no rune.
const (
	ended  = -1
	broken = -2
)

// parser goes over the runes of a pattern until it meets an error.
type parser struct {
	runes  []rune
	starts []int // at which byte each rune begins, and where the pattern ends
	next   int   // the index of the next rune
	open   int   // parentheses
	groups int
	err    api.Errno
	where  int
}

// Parse returns the nodes of the pattern s.
func Parse(s string) ([]api.Node, api.Errno, int) {
	if len(s) > api.MaxPattern {
		return nil, api.ErrLong, 0
	}
	p := parser{}
	at := 0
	for _, g := range utf.All([]byte(s)) {
		r := g.R
		if r == 0xFFFD && g.N == 1 {
			r = broken
		}
		p.runes = append(p.runes, r)
		p.starts = append(p.starts, at)
		at += g.N
	}
	p.starts = append(p.starts, at)
	l := p.alt()
	if p.err != api.OK {
		return nil, p.err, p.where
	}
	return l, api.OK, 0
}

// sees returns the next rune.
func (p *parser) sees() rune {
	if p.next == len(p.runes) {
		return ended
	}
	return p.runes[p.next]
}

// here returns the byte index of the next rune.
func (p *parser) here() int {
	return p.starts[p.next]
}

// takes goes over the next rune if it is r.
func (p *parser) takes(r rune) bool {
	if p.sees() != r {
		return false
	}
	p.next++
	return true
}

// fail keeps the first error.
func (p *parser) fail(err api.Errno, where int) {
	if p.err == api.OK {
		p.err = err
		p.where = where
	}
}

// alt parses up to the parenthesis that ends it, or to the end.
func (p *parser) alt() []api.Node {
	kids := [][]api.Node{p.cat()}
	for p.err == api.OK && p.takes('|') {
		kids = append(kids, p.cat())
	}
	return joined(api.NAlt, kids)
}

func (p *parser) cat() []api.Node {
	var kids [][]api.Node
	for p.err == api.OK && !p.catEnds() {
		kids = append(kids, p.rep())
	}
	return joined(api.NCat, kids)
}

func (p *parser) catEnds() bool {
	switch p.sees() {
	case ended, '|':
		return true
	case ')':
		// Without its ( it is no end, but a character that cannot begin an atom.
		return p.open > 0
	}
	return false
}

// joined returns the node that has the kids, if there are several.
func joined(op int, kids [][]api.Node) []api.Node {
	switch len(kids) {
	case 0:
		return []api.Node{{Op: api.NEmpty}}
	case 1:
		return kids[0]
	}
	l := []api.Node{{Op: op, Kids: len(kids)}}
	for _, k := range kids {
		l = append(l, k...)
	}
	return l
}

func (p *parser) rep() []api.Node {
	l := p.atom()
	n := api.Node{Op: api.NRepeat, Max: -1, Kids: 1}
	switch {
	case p.err != api.OK:
		return nil
	case p.takes('*'):
	case p.takes('+'):
		n.Min = 1
	case p.takes('?'):
		n.Max = 1
	case p.sees() == '{':
		n.Min, n.Max = p.counts()
	default:
		return l
	}
	n.Lazy = p.takes('?')
	return append([]api.Node{n}, l...)
}

// counts parses {m}, {m,} or {m,n}.
func (p *parser) counts() (int, int) {
	start := p.here()
	p.next++
	m, ok := p.digits()
	n, bounded := m, true
	if p.takes(',') {
		n, bounded = p.digits()
	}
	if !ok || !p.takes('}') || bounded && less(n, m) {
		p.fail(api.ErrForm, start)
		return 0, 0
	}
	low, high := count(m), -1
	if bounded {
		high = count(n)
	}
	if low > api.MaxRepeat || high > api.MaxRepeat {
		p.fail(api.ErrLong, start)
	}
	return low, high
}

// digits returns a number without its leading zeros, and whether there is one.
func (p *parser) digits() (string, bool) {
	var b []byte
	for p.sees() >= '0' && p.sees() <= '9' {
		b = append(b, byte(p.sees()))
		p.next++
	}
	return strings.TrimLeft(string(b), "0"), len(b) > 0
}

// less compares numbers of any size, without leading zeros.
func less(a, b string) bool {
	if len(a) != len(b) {
		return len(a) < len(b)
	}
	return a < b
}

// count returns the number of the digits, or one beyond the limit if it is beyond.
func count(s string) int {
	n := 0
	for i := range len(s) {
		n = min(10*n+int(s[i]-'0'), api.MaxRepeat+1)
	}
	return n
}

func (p *parser) atom() []api.Node {
	r := p.sees()
	switch r {
	case '(':
		return p.parenthesis()
	case '[':
		return ofClass(p.set())
	case '\\':
		return ofClass(p.escape())
	case '*', '+', '?', '{', '}', ']', ')', broken:
		p.fail(api.ErrForm, p.here())
		return nil
	}
	p.next++
	switch r {
	case '.':
		return ofClass(dot())
	case '^':
		return []api.Node{{Op: api.NBegin}}
	case '$':
		return []api.Node{{Op: api.NEnd}}
	}
	return ofClass([]api.Range{{Lo: r, Hi: r}})
}

func ofClass(l []api.Range) []api.Node {
	return []api.Node{{Op: api.NClass, Ranges: class.Make(l...)}}
}

// parenthesis parses a group, or what is only held together.
func (p *parser) parenthesis() []api.Node {
	start := p.here()
	p.next++
	group := !p.takes('?')
	switch {
	case !group && !p.takes(':'):
		p.fail(api.ErrForm, start)
		return nil
	case p.open == api.MaxNest:
		p.fail(api.ErrDeep, start)
		return nil
	case group && p.groups == api.MaxGroups:
		p.fail(api.ErrMany, start)
		return nil
	}
	n := api.Node{Op: api.NGroup, Kids: 1}
	if group {
		p.groups++
		n.Cap = p.groups
	}
	p.open++
	l := p.alt()
	if !p.takes(')') {
		p.fail(api.ErrForm, start)
	}
	p.open--
	if group {
		return append([]api.Node{n}, l...)
	}
	return l
}

// escape parses a backslash and what follows it.
func (p *parser) escape() []api.Range {
	start := p.here()
	p.next++
	r := p.sees()
	if r == broken {
		p.fail(api.ErrForm, p.here())
		return nil
	}
	l := escaped(r)
	if l == nil {
		p.fail(api.ErrForm, start)
		return nil
	}
	p.next++
	return l
}

// escaped returns the runes of an escape, nil if there is none.
func escaped(r rune) []api.Range {
	switch r {
	case 'n':
		return []api.Range{{Lo: '\n', Hi: '\n'}}
	case 't':
		return []api.Range{{Lo: '\t', Hi: '\t'}}
	case 'r':
		return []api.Range{{Lo: '\r', Hi: '\r'}}
	case 'd':
		return []api.Range{{Lo: '0', Hi: '9'}}
	case 's':
		return []api.Range{{Lo: '\t', Hi: '\n'}, {Lo: '\r', Hi: '\r'}, {Lo: ' ', Hi: ' '}}
	case 'w':
		return []api.Range{{Lo: '0', Hi: '9'}, {Lo: 'A', Hi: 'Z'}, {Lo: '_', Hi: '_'}, {Lo: 'a', Hi: 'z'}}
	}
	if punctuation(r) {
		return []api.Range{{Lo: r, Hi: r}}
	}
	return nil
}

// set parses a class in brackets.
func (p *parser) set() []api.Range {
	start := p.here()
	p.next++
	not := p.takes('^')
	var l []api.Range
	for p.err == api.OK && p.sees() != ']' && p.sees() != ended {
		l = append(l, p.item()...)
	}
	if l == nil || !p.takes(']') {
		p.fail(api.ErrForm, start)
		return nil
	}
	if not {
		return class.Not(l)
	}
	return l
}

// item parses one rune, a range, or an escape for several runes.
func (p *parser) item() []api.Range {
	start := p.here()
	if p.sees() == '[' || p.sees() == '-' {
		p.fail(api.ErrForm, start)
		return nil
	}
	first := p.element()
	if p.err != api.OK || !p.takes('-') {
		return first
	}
	switch p.sees() {
	case '[', '-', ']', ended:
		p.fail(api.ErrForm, start)
		return nil
	}
	second := p.element()
	if p.err != api.OK || !single(first) || !single(second) || first[0].Lo > second[0].Lo {
		p.fail(api.ErrForm, start)
		return nil
	}
	return []api.Range{{Lo: first[0].Lo, Hi: second[0].Lo}}
}

// element parses a rune or an escape within brackets.
func (p *parser) element() []api.Range {
	r := p.sees()
	switch r {
	case '\\':
		return p.escape()
	case broken:
		p.fail(api.ErrForm, p.here())
		return nil
	}
	p.next++
	return []api.Range{{Lo: r, Hi: r}}
}

func single(l []api.Range) bool {
	return len(l) == 1 && l[0].Lo == l[0].Hi
}
