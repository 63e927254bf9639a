package parser_test

import (
	"strconv"
	"strings"

	"newel/api"
	"newel/parser"
	"newel/syntax"
)

// parse has the functions that read texts, by what they read.
var parse = map[string]func(string) (syntax.Node, api.Fault){
	"unit": parser.Parse, "expr": parser.Expr, "type": parser.Type, "pattern": parser.Pattern,
}

// starts are the rules of the grammar for whole texts.
var starts = map[string]string{"unit": "unit", "expr": "oneexpr", "type": "onetype", "pattern": "onlypattern"}

var kinds = []string{"unit", "expr", "type", "pattern"}

func form(n syntax.Node) string {
	s, _ := syntax.Text(n)
	return s
}

// places writes a tree with the offset of each node, without texts.
func places(n syntax.Node) string {
	var b strings.Builder
	b.WriteString(syntax.Name(n.Kind) + "@" + strconv.Itoa(n.At))
	for i, k := range n.Kids {
		b.WriteByte("( "[min(i, 1)])
		b.WriteString(places(k))
	}
	if len(n.Kids) > 0 {
		b.WriteByte(')')
	}
	return b.String()
}

func fault(at int, code api.Errno) api.Fault {
	return api.Fault{At: at, Code: code}
}

// isZero reports whether a node is the zero value.
func isZero(n syntax.Node) bool {
	return n.Kind == 0 && n.Text == "" && n.Num == 0 && len(n.Kids) == 0 && n.At == 0
}
