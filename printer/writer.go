package printer

import (
	"slices"
	"strings"

	"newel/api"
	"newel/syntax"
)

const (
	step      = "  " // by which a block is indented
	maxInLine = 60   // bytes of a block in braces that stands in one line

	operatorBytes = "+-*/%<>=!&|^~:?"
)

// writer writes the text of a tree, until there are too many bytes: then it is
// full.
type writer struct {
	indents bool // blocks outside of brackets are written by indentation
	flat    bool // no line ends inside of brackets

	rules    map[int]rule
	line     func() // begins a line, with the indentation at hand
	out      []byte
	most     int    // bytes that may be written
	full     bool   // there would be more of them
	last     string // the last word
	dedented bool   // a block by indentation has ended just now
	brackets int    // those that are open
}

// text returns the text of a tree; false: it has too many bytes.
func (w *writer) text(n *syntax.Node) (string, bool) {
	w.most, w.rules = api.MaxText, rules()
	w.line = func() {
		if len(w.out) > 0 {
			w.put("\n")
		}
	}
	w.node(n)
	if n.Kind == syntax.SUnit || slices.Contains(w.out, '\n') {
		w.line()
	}
	return string(w.out), !w.full
}

// node writes a node by the rule for its kind.
func (w *writer) node(n *syntax.Node) {
	w.rules[n.Kind](w, n)
}

// put writes words one behind the other. Two operators do not become one.
func (w *writer) put(words ...string) {
	for _, word := range words {
		if word == "" {
			continue
		}
		if n := len(w.out); n > 0 && isOperator(w.out[n-1]) && isOperator(word[0]) {
			w.add(" ")
		}
		w.add(word)
	}
}

func (w *writer) add(word string) {
	w.full = w.full || len(w.out)+len(word) > w.most
	if !w.full {
		w.out = append(w.out, word...)
	}
	w.last, w.dedented = word, false
}

func isOperator(b byte) bool {
	return strings.IndexByte(operatorBytes, b) >= 0
}

// list writes nodes with a word between them.
func (w *writer) list(between string, write func(*syntax.Node), nodes ...syntax.Node) {
	for i := range nodes {
		if i > 0 {
			w.put(between)
		}
		write(&nodes[i])
	}
}

// enclosed writes something in brackets.
func (w *writer) enclosed(open string, write func(), end string) {
	w.put(open)
	w.brackets++
	write()
	w.brackets--
	w.put(end)
}

// within writes a node, in parentheses if it cannot stand in its place without
// them.
func (w *writer) within(least int, n *syntax.Node) {
	if rank(n) >= least {
		w.node(n)
		return
	}
	w.enclosed("(", func() { w.node(n) }, ")")
}

// isFlat reports whether no line may end here.
func (w *writer) isFlat() bool {
	return w.flat && w.brackets > 0
}

// isIndented reports whether a block is written by indentation here.
func (w *writer) isIndented(nodes []syntax.Node) bool {
	return w.indents && w.brackets == 0 && len(nodes) > 0
}

func (w *writer) nextLine() {
	if w.isFlat() {
		w.put(" ")
	} else {
		w.line()
	}
}

// deeper writes something whose lines are indented by one step more.
func (w *writer) deeper(write func()) {
	outer := w.line
	w.line = func() {
		outer()
		w.put(step)
	}
	write()
	w.line = outer
}

// lines writes nodes in lines of their own.
func (w *writer) lines(nodes ...syntax.Node) {
	for i := range nodes {
		if i > 0 {
			w.endStatement()
		}
		w.nextLine()
		w.node(&nodes[i])
	}
}

// endStatement writes a semicolon behind a statement, where a line end alone
// does not divide it from the next one.
func (w *writer) endStatement() {
	switch {
	case w.isFlat():
		w.put(";")
	case w.isUnfinished() && w.dedented:
		// At the end of the line it would stand in the block that has ended.
		w.line()
		w.put(";")
	case w.isUnfinished(), w.opensBlock():
		w.put(";")
	}
}

// isUnfinished reports whether the lexer does not end a statement behind the
// last word: it is an operator, or the keyword of a singleton type.
func (w *writer) isUnfinished() bool {
	n := len(w.last)
	return w.last == ".type" || n > 0 && isOperator(w.last[n-1])
}

// opensBlock reports whether the next line would be taken for a block that the
// last word opens: one that is returned. Outside of braces it is not deeper.
func (w *writer) opensBlock() bool {
	return w.last == "return" && w.brackets > 0
}

// indented writes the nodes of a block that is written by indentation.
func (w *writer) indented(nodes ...syntax.Node) {
	w.deeper(func() { w.lines(nodes...) })
	w.dedented = true
}

// inBraces writes the nodes of a block in braces.
func (w *writer) inBraces(nodes ...syntax.Node) {
	w.inBracket("{", nodes...)
}

// inBracket writes the nodes of a block from a bracket on that a brace closes.
func (w *writer) inBracket(open string, nodes ...syntax.Node) {
	w.enclosed(open, func() {
		if len(nodes) > 0 {
			w.deeper(func() { w.lines(nodes...) })
			w.nextLine()
		}
	}, "}")
}

// block writes the statements of an expression, in one line if there is just
// one and it is short.
func (w *writer) block(open string, statements ...syntax.Node) {
	before := *w
	if len(statements) == 1 && isExpr(statements[0].Kind) && !w.flat {
		w.flat, w.most = true, min(w.most, len(w.out)+maxInLine)
		w.inBracket(open, statements...)
		w.flat, w.most = before.flat, before.most
		if !w.full {
			return
		}
		*w = before
	}
	w.inBracket(open, statements...)
}

// body writes the statements of a class, or of several extension methods.
func (w *writer) body(nodes ...syntax.Node) {
	if w.isIndented(nodes) {
		w.put(":")
		w.indented(nodes...)
		return
	}
	w.put(" ")
	w.inBraces(nodes...)
}
