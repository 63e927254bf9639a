package syntax

import (
	"iter"

	"newel/api"
)

// preorder visits a node and all nodes below it, each one ahead of its kids.
func preorder(n *Node) iter.Seq[*Node] {
	return func(yield func(*Node) bool) {
		visit(n, yield)
	}
}

func visit(n *Node, yield func(*Node) bool) bool {
	if !yield(n) {
		return false
	}
	for i := range n.Kids {
		if !visit(&n.Kids[i], yield) {
			return false
		}
	}
	return true
}

// small reports whether a node has no more nodes than a tree may have.
func small(n Node) bool {
	return Size(n) <= api.MaxNodes
}

// place is where a list of nodes lies. Lists of kids may share memory, even
// with themselves: what looks at places comes to an end nevertheless.
type place struct {
	first *Node
	count int
}

func placeOf(l []Node) place {
	return place{first: &l[0], count: len(l)}
}

// below returns the lists of kids of the nodes in some lists, each once.
func below(lists [][]Node) [][]Node {
	var out [][]Node
	seen := map[place]bool{}
	for _, l := range lists {
		for _, n := range l {
			if len(n.Kids) == 0 || seen[placeOf(n.Kids)] {
				continue
			}
			seen[placeOf(n.Kids)] = true
			out = append(out, n.Kids)
		}
	}
	return out
}

// comparison compares nodes. After many steps it remembers which lists it has
// begun to compare.
type comparison struct {
	steps int
	seen  map[[2]place]bool
}

func (c *comparison) equal(a, b *Node) bool {
	if a.Kind != b.Kind || a.Text != b.Text || a.Num != b.Num || len(a.Kids) != len(b.Kids) {
		return false
	}
	if len(a.Kids) == 0 || c.begun(a.Kids, b.Kids) {
		return true
	}
	for i := range a.Kids {
		if !c.equal(&a.Kids[i], &b.Kids[i]) {
			return false
		}
	}
	return true
}

// begun reports whether two lists need no comparison: they are one list, or
// are compared elsewhere, where a difference would end the whole comparison.
func (c *comparison) begun(a, b []Node) bool {
	pair := [2]place{placeOf(a), placeOf(b)}
	if pair[0] == pair[1] || c.seen[pair] {
		return true
	}
	c.steps++
	if c.steps > api.MaxNodes {
		c.seen[pair] = true
	}
	return false
}

// named reports whether a node is the name of a value or a type.
func named(n *Node) bool {
	return n.Kind == XName || n.Kind == TName
}

// renamed returns a tree in new memory, with another name.
func renamed(n Node, from, to string) Node {
	if named(&n) && n.Text == from {
		n.Text = to
	}
	var kids []Node
	for _, k := range n.Kids {
		kids = append(kids, renamed(k, from, to))
	}
	n.Kids = kids
	return n
}

// copies are lists in new memory by the places of the old ones. Each list is
// copied once, since it may contain itself.
type copies map[place][]Node

func (c copies) list(l []Node) []Node {
	if len(l) == 0 {
		return nil
	}
	p := placeOf(l)
	if out := c[p]; out != nil {
		return out
	}
	out := make([]Node, len(l))
	c[p] = out
	for i, n := range l {
		n.Kids = c.list(n.Kids)
		out[i] = n
	}
	return out
}
