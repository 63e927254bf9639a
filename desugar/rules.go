package desugar

import (
	"strings"

	"newel/api"
	"newel/syntax"
	"newel/tokens"
)

// The Num of some kinds.
const (
	plainClass = 0 // of SClass
	caseClass  = 3
	caseObject = 4
	enumClass  = 5
	extension  = 1 // of SDef
	usingList  = 1 // of SParams
	yields     = 1 // of XFor
)

// replacer replaces the nodes of a tree. At a fault it panics with an
// api.Fault.
type replacer struct {
	fresh func() string // the next fresh name
	count int           // nodes that have been replaced
}

// rule is a method that returns what stands in the place of a node.
type rule func(*replacer, syntax.Node) []syntax.Node

// rules returns the rules of the kinds; nodes of other kinds stay.
func rules() map[int]rule {
	return map[int]rule{
		syntax.SClass: (*replacer).class, syntax.SEnumCase: (*replacer).enumCase,
		syntax.SExtension: (*replacer).extension, syntax.SLists: (*replacer).lists,

		syntax.XInfix: (*replacer).infix, syntax.XPrefix: (*replacer).prefix,
		syntax.XAssign: (*replacer).assignment, syntax.XInterp: (*replacer).interpolated,
		syntax.XIf: (*replacer).ifElse, syntax.XReturn: (*replacer).returned,
		syntax.XFor: (*replacer).loop, syntax.XBlock: (*replacer).block,
		syntax.SLambdaParam: (*replacer).lambdaParam,
	}
}

// tree returns the core tree of a unit or an expression: each node is
// replaced, then the kids of what stands in its place.
func (r *replacer) tree(n syntax.Node) syntax.Node {
	table := rules()
	var replaced func(l ...syntax.Node) []syntax.Node
	replaced = func(l ...syntax.Node) []syntax.Node {
		var out []syntax.Node
		for _, n := range l {
			made := []syntax.Node{n}
			if replace := table[n.Kind]; replace != nil {
				made = replace(r, n)
			}
			r.counts()
			for _, m := range made {
				if m.Kind == syntax.PLiteral {
					m = copied(m) // the minus of a number stays
				} else {
					m.Kids = replaced(m.Kids...)
				}
				out = append(out, m)
			}
		}
		return out
	}
	return replaced(n)[0]
}

// counts counts a node that has been replaced. Copies of copies of nodes may
// be very many.
func (r *replacer) counts() {
	r.count++
	if r.count > api.MaxNodes {
		panic(api.Fault{At: 0, Code: api.ErrLimit})
	}
}

func (r *replacer) infix(n syntax.Node) []syntax.Node {
	m := maker(n.At)
	a, b := n.Kids[0], n.Kids[1]
	switch {
	case n.Text == "&&":
		return one(m.node(syntax.XIf, "", a, b, m.node(syntax.XFalse, "")))
	case n.Text == "||":
		return one(m.node(syntax.XIf, "", a, m.node(syntax.XTrue, ""), b))
	case n.Text == "!=":
		return one(m.node(syntax.XSelect, "!", m.call(a, "==", b)))
	case tokens.Right(n.Text):
		name := r.fresh()
		first := m.node(syntax.SVal, name, m.node(syntax.SMods, ""), m.none(), a)
		return one(m.node(syntax.XBlock, "", first, m.call(b, n.Text, m.node(syntax.XName, name))))
	}
	return one(m.call(a, n.Text, b))
}

func (r *replacer) prefix(n syntax.Node) []syntax.Node {
	return one(maker(n.At).node(syntax.XSelect, n.Text, n.Kids[0]))
}

func (r *replacer) assignment(n syntax.Node) []syntax.Node {
	m := maker(n.At)
	left, value := n.Kids[0], n.Kids[1]
	if op := strings.TrimSuffix(n.Text, "="); op != "" {
		value = m.node(syntax.XInfix, op, left, value)
	}
	if left.Kind == syntax.XApply {
		return one(m.call(left.Kids[0], "update", joined(left.Kids[1:], value)...))
	}
	if !isAssignable(&left) {
		panic(api.Fault{At: n.At, Code: api.ErrForm})
	}
	return one(m.node(syntax.XAssign, "=", left, value))
}

func (r *replacer) interpolated(n syntax.Node) []syntax.Node {
	if n.Text != "s" {
		panic(api.Fault{At: n.At, Code: api.ErrName})
	}
	sum := n.Kids[0]
	for _, k := range n.Kids[1:] {
		if k.Kind == syntax.XString && k.Text == "" {
			continue
		}
		sum = maker(n.At).call(sum, "+", k)
	}
	return one(sum)
}

func (r *replacer) ifElse(n syntax.Node) []syntax.Node {
	if n.Kids[2].Kind == syntax.SNone {
		n.Kids = joined(n.Kids[:2], maker(n.At).node(syntax.XUnit, ""))
	}
	return one(n)
}

func (r *replacer) returned(n syntax.Node) []syntax.Node {
	if n.Kids[0].Kind == syntax.SNone {
		n.Kids = one(maker(n.At).node(syntax.XUnit, ""))
	}
	return one(n)
}

func (r *replacer) block(n syntax.Node) []syntax.Node {
	if i := misplaced(&n); i >= 0 {
		panic(api.Fault{At: n.Kids[i].At, Code: api.ErrForm})
	}
	if !hasResult(&n) {
		n.Kids = joined(n.Kids, maker(n.At).node(syntax.XUnit, ""))
	}
	return one(n)
}

func (r *replacer) lambdaParam(n syntax.Node) []syntax.Node {
	if n.Text == "_" {
		n.Text = r.fresh()
	}
	return one(n)
}
