package desugar

import "newel/syntax"

// maker makes nodes; it is the At that they have.
type maker int

func (m maker) node(kind int, text string, kids ...syntax.Node) syntax.Node {
	return syntax.Node{Kind: kind, Text: text, Kids: kids, At: int(m)}
}

func (m maker) none() syntax.Node {
	return m.node(syntax.SNone, "")
}

// call makes an application of a member.
func (m maker) call(of syntax.Node, member string, args ...syntax.Node) syntax.Node {
	return m.node(syntax.XApply, "", joined(one(m.node(syntax.XSelect, member, of)), args...)...)
}

// one returns a list of one node.
func one(n syntax.Node) []syntax.Node {
	return []syntax.Node{n}
}

// joined returns a list, with others behind, in new memory.
func joined(l []syntax.Node, others ...syntax.Node) []syntax.Node {
	var out []syntax.Node
	out = append(out, l...)
	return append(out, others...)
}
