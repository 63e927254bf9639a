package desugar_test

import (
	"strconv"
	"strings"
	"testing"

	"newel/api"
	"newel/desugar"
	"newel/parser"
	"newel/syntax"
)

func fault(at int, code api.Errno) api.Fault {
	return api.Fault{At: at, Code: code}
}

func form(n syntax.Node) string {
	s, _ := syntax.Text(n)
	return s
}

// tree reads a text form; the offsets are those in it.
func tree(t *testing.T, form string) syntax.Node {
	t.Helper()
	n, f := syntax.Read(form)
	if f.Code != api.OK {
		t.Fatalf("Read(%q): %v", form, f)
	}
	return n
}

// parsed reads a text of a unit or an expression.
func parsed(t *testing.T, kind, text string) syntax.Node {
	t.Helper()
	read := map[string]func(string) (syntax.Node, api.Fault){"unit": parser.Parse, "expr": parser.Expr}[kind]
	n, f := read(text)
	if f.Code != api.OK {
		t.Fatalf("%q: %v", text, f)
	}
	return n
}

// core desugars a unit or an expression.
func core(n syntax.Node) (syntax.Node, api.Fault) {
	if n.Kind == syntax.SUnit {
		return desugar.Unit(n)
	}
	return desugar.Expr(n)
}

// places writes a tree with the offset of each node.
func places(n syntax.Node) string {
	var b strings.Builder
	b.WriteString(syntax.Name(n.Kind) + "@" + strconv.Itoa(n.At))
	for i, k := range n.Kids {
		b.WriteByte("( "[min(i, 1)])
		b.WriteString(places(k))
	}
	if len(n.Kids) > 0 {
		b.WriteByte(')')
	}
	return b.String()
}

// isZero reports whether a node is the zero value.
func isZero(n syntax.Node) bool {
	return n.Kind == 0 && n.Text == "" && n.Num == 0 && len(n.Kids) == 0 && n.At == 0
}

// node makes a node.
func node(kind int, text string, kids ...syntax.Node) syntax.Node {
	return syntax.Node{Kind: kind, Text: text, Kids: kids}
}

// times makes a list of a number of equal nodes.
func times(count int, n syntax.Node) []syntax.Node {
	var l []syntax.Node
	for range count {
		l = append(l, n)
	}
	return l
}

// each visits the nodes of a tree in preorder.
func each(n *syntax.Node, visit func(*syntax.Node)) {
	visit(n)
	for i := range n.Kids {
		each(&n.Kids[i], visit)
	}
}
