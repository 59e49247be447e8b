package syntax

import (
	"slices"
	"strconv"
	"unicode/utf8"

	"spoor/api"
	"spoor/class"
)

// printer goes over nodes and appends what they are written as.
type printer struct {
	nodes []api.Node
	out   []byte
}

// Print returns the pattern of the node l.
func Print(l []api.Node) string {
	if !Right(l) {
		return ""
	}
	p := printer{nodes: l}
	p.node()
	return string(p.out)
}

func (p *printer) add(s string) {
	p.out = append(p.out, s...)
}

// node prints the first of the nodes that are left, with its descendants.
func (p *printer) node() {
	n := p.nodes[0]
	p.nodes = p.nodes[1:]
	switch n.Op {
	case api.NEmpty:
		p.add("(?:)")
	case api.NBegin:
		p.add("^")
	case api.NEnd:
		p.add("$")
	case api.NClass:
		p.set(n.Ranges)
	case api.NCat:
		p.kids(n, "")
	case api.NAlt:
		p.kids(n, "|")
	case api.NRepeat:
		p.kids(n, "")
		p.counts(n)
	case api.NGroup:
		p.add("(")
		p.kids(n, "")
		p.add(")")
	}
}

// kids prints the kids of n, with the text between them.
func (p *printer) kids(n api.Node, between string) {
	for i := range n.Kids {
		if i > 0 {
			p.add(between)
		}
		if enclosed(n.Op, p.nodes[0].Op) {
			p.add("(?:")
			p.node()
			p.add(")")
		} else {
			p.node()
		}
	}
}

// enclosed reports whether a kid would be read as something else without parentheses.
func enclosed(op, kid int) bool {
	switch op {
	case api.NCat:
		return kid == api.NCat || kid == api.NAlt
	case api.NAlt:
		return kid == api.NAlt
	case api.NRepeat:
		return kid == api.NCat || kid == api.NAlt || kid == api.NRepeat
	}
	return false
}

func (p *printer) counts(n api.Node) {
	least, most := strconv.Itoa(n.Min), strconv.Itoa(n.Max)
	switch {
	case n.Min == 0 && n.Max == -1:
		p.add("*")
	case n.Min == 1 && n.Max == -1:
		p.add("+")
	case n.Min == 0 && n.Max == 1:
		p.add("?")
	case n.Max == -1:
		p.add("{" + least + ",}")
	case n.Min == n.Max:
		p.add("{" + least + "}")
	default:
		p.add("{" + least + "," + most + "}")
	}
	if n.Lazy {
		p.add("?")
	}
}

func (p *printer) set(l []api.Range) {
	switch {
	case slices.Equal(l, dot()):
		p.add(".")
	case single(l):
		p.written(l[0].Lo)
	case len(l) == 0:
		p.add("[^")
		p.ranges(class.Not(nil))
		p.add("]")
	default:
		p.add("[")
		p.ranges(l)
		p.add("]")
	}
}

func (p *printer) ranges(l []api.Range) {
	for _, g := range l {
		p.written(g.Lo)
		if g.Hi != g.Lo {
			p.add("-")
			p.written(g.Hi)
		}
	}
}

// written prints the written form of r.
func (p *printer) written(r rune) {
	switch {
	case r == '\n':
		p.add("\\n")
	case r == '\t':
		p.add("\\t")
	case r == '\r':
		p.add("\\r")
	case punctuation(r):
		p.add("\\")
		p.out = append(p.out, byte(r))
	default:
		p.out = utf8.AppendRune(p.out, r)
	}
}
