package printer

import (
	"strconv"

	"newel/syntax"
	"newel/tokens"
)

func (w *writer) infix(n *syntax.Node) {
	w.operand(n, 0)
	w.put(" ", n.Text, " ")
	w.operand(n, 1)
}

// operand writes the left or the right operand of an operator.
func (w *writer) operand(n *syntax.Node, side int) {
	least := rankPrefix
	if operand := &n.Kids[side]; operand.Kind == syntax.XInfix && binds(operand.Text, n.Text, side) {
		least = rankInfix
	}
	w.within(least, &n.Kids[side])
}

// binds reports whether an operator in the left or right operand of another
// one takes its operands ahead of that.
func binds(inner, outer string, side int) bool {
	p, q := tokens.Precedence(inner), tokens.Precedence(outer)
	if p != q {
		return p > q
	}
	fromRight := side == 1
	return tokens.Right(inner) == fromRight && tokens.Right(outer) == fromRight
}

// prefix writes an operator and its operand. With a blank behind it, an
// operator that begins a line would belong to the line in front: so the
// operators that follow stand in parentheses, with blanks between them.
func (w *writer) prefix(n *syntax.Node) {
	w.put(n.Text)
	operand := &n.Kids[0]
	if operand.Kind != syntax.XPrefix {
		w.within(rankSimple, operand)
		return
	}
	w.enclosed("(", func() {
		for operand.Kind == syntax.XPrefix {
			w.put(operand.Text)
			operand = &operand.Kids[0]
		}
		w.within(rankSimple, operand)
	}, ")")
}

func (w *writer) number(n *syntax.Node) {
	w.put(strconv.FormatInt(n.Num, 10))
	if n.Kind == syntax.XLong {
		w.put("L")
	}
}

func (w *writer) keyword(n *syntax.Node) {
	switch n.Kind {
	case syntax.XTrue:
		w.put("true")
	case syntax.XFalse:
		w.put("false")
	case syntax.XNull:
		w.put("null")
	case syntax.XUnit:
		w.put("()")
	case syntax.XThis:
		w.put("this")
	}
}
