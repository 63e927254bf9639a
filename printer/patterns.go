package printer

import "newel/syntax"

func (w *writer) wildPattern(*syntax.Node) {
	w.put("_")
}

// bind writes a name for a pattern. A name alone stands for one that binds
// anything, if it is the name of a variable.
func (w *writer) bind(n *syntax.Node) {
	w.put(n.Text)
	if kid := &n.Kids[0]; kid.Kind != syntax.PWild || !isVariable(n.Text) {
		w.put(" @ ")
		w.within(rankJoined, kid)
	}
}

// isVariable reports whether a name alone, in a pattern, is one that it binds.
func isVariable(name string) bool {
	return name[0] >= 'a' && name[0] <= 'z' || name[0] == '_'
}

func (w *writer) typedPattern(n *syntax.Node) {
	w.put(n.Text, ": ")
	w.within(rankJoined, &n.Kids[0])
}

func (w *writer) literalPattern(n *syntax.Node) {
	w.node(&n.Kids[0])
}

// partsPattern writes the patterns of the parts of a value.
func (w *writer) partsPattern(n *syntax.Node) {
	w.put(n.Text)
	w.inParentheses(false, w.node, n.Kids...)
}

func (w *writer) alternatives(n *syntax.Node) {
	w.list(" | ", func(kid *syntax.Node) { w.within(rankInfix, kid) }, n.Kids...)
}
