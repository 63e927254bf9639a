package printer

import "newel/syntax"

// name writes a node that is nothing but its Text.
func (w *writer) name(n *syntax.Node) {
	w.put(n.Text)
}

// selection writes the member of a path or of an expression.
func (w *writer) selection(n *syntax.Node) {
	w.within(rankSimple, &n.Kids[0])
	w.put(".", n.Text)
}

// typeArguments writes what is applied to types.
func (w *writer) typeArguments(n *syntax.Node) {
	w.within(rankSimple, &n.Kids[0])
	w.enclosed("[", func() { w.list(", ", w.node, n.Kids[1:]...) }, "]")
}

func (w *writer) functionType(n *syntax.Node) {
	last := len(n.Kids) - 1
	if last == 1 {
		w.within(rankJoined, &n.Kids[0])
	} else {
		w.inParentheses(false, w.node, n.Kids[:last]...)
	}
	w.put(" => ")
	w.node(&n.Kids[last])
}

func (w *writer) intersection(n *syntax.Node) {
	w.within(rankInfix, &n.Kids[0])
	w.put(" & ")
	w.within(rankSimple, &n.Kids[1])
}

func (w *writer) union(n *syntax.Node) {
	w.within(rankJoined, &n.Kids[0])
	w.put(" | ")
	w.within(rankInfix, &n.Kids[1])
}

func (w *writer) singleton(n *syntax.Node) {
	w.node(&n.Kids[0])
	w.put(".type")
}

func (w *writer) wildcard(n *syntax.Node) {
	w.put("_")
	w.bounds(n.Kids...)
}

func (w *writer) typeLambda(n *syntax.Node) {
	w.node(&n.Kids[0])
	w.put(" =>> ")
	w.node(&n.Kids[1])
}

func (w *writer) typeCase(n *syntax.Node) {
	w.put("case ")
	w.within(rankJoined, &n.Kids[0])
	w.put(" => ")
	w.node(&n.Kids[1])
}
