package desugar

import (
	"strconv"
	"strings"

	"newel/syntax"
)

// isExpr reports whether a kind is one of expressions.
func isExpr(kind int) bool {
	return strings.HasPrefix(syntax.Name(kind), "X") && kind != syntax.XNamed
}

// isPattern reports whether a kind is one of patterns.
func isPattern(kind int) bool {
	return strings.HasPrefix(syntax.Name(kind), "P")
}

// walk visits a node and then what is below it, in preorder, but not what is
// below a node for which visit returns false.
func walk(n *syntax.Node, visit func(*syntax.Node) bool) {
	if !visit(n) {
		return
	}
	for i := range n.Kids {
		walk(&n.Kids[i], visit)
	}
}

// offset returns the At of the node with an index in preorder. A tree that has
// no end has a fault at its root.
func offset(n *syntax.Node, index int) int {
	at := n.At
	if index == 0 {
		return at
	}
	walk(n, func(m *syntax.Node) bool {
		if index == 0 {
			at = m.At
		}
		index--
		return index >= 0
	})
	return at
}

// copied returns a tree in new memory.
func copied(n syntax.Node) syntax.Node {
	var kids []syntax.Node
	for _, k := range n.Kids {
		kids = append(kids, copied(k))
	}
	n.Kids = kids
	return n
}

// freshNames returns a function that returns fresh names for a tree, one after
// the other.
func freshNames(n syntax.Node) func() string {
	taken := texts(n)
	number := 0
	return func() string {
		for {
			number++
			name := "_" + strconv.Itoa(number)
			if !taken[name] {
				return name
			}
		}
	}
}

// texts returns the texts of all nodes of a tree. It looks at each list of
// kids once, as lists that share memory may have no end.
func texts(n syntax.Node) map[string]bool {
	type place struct {
		first *syntax.Node
		count int
	}
	out := map[string]bool{}
	seen := map[place]bool{}
	for lists := [][]syntax.Node{{n}}; len(lists) > 0; {
		var below [][]syntax.Node
		for _, l := range lists {
			for _, m := range l {
				out[m.Text] = true
				if len(m.Kids) == 0 || seen[place{&m.Kids[0], len(m.Kids)}] {
					continue
				}
				seen[place{&m.Kids[0], len(m.Kids)}] = true
				below = append(below, m.Kids)
			}
		}
		lists = below
	}
	return out
}
