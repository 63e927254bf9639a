package parser

import (
	"strconv"

	"newel/syntax"
	"newel/tokens"
)

// operation reads operands and operators, and matches behind them.
func (r *reader) operation() syntax.Node {
	n := r.infix(1)
	for r.accept("match") {
		if !r.isOpen() {
			panic(r.stuck())
		}
		n = tree(syntax.XMatch, n.At, append([]syntax.Node{n}, r.caseList()...)...)
	}
	return n
}

// infix reads operands and operators of at least a precedence, from the left.
func (r *reader) infix(least int) syntax.Node {
	left := r.prefix()
	for r.operatorPrecedence() >= least {
		left = r.binary(left)
	}
	return left
}

// operatorPrecedence returns the precedence of the operator at hand, or 0 if
// there is none that stands between operands.
func (r *reader) operatorPrecedence() int {
	t := r.token()
	if t.Kind != tokens.Op || tokens.Assigns(t.Text) {
		return 0
	}
	return tokens.Precedence(t.Text)
}

// binary reads an operator and its right operand.
func (r *reader) binary(left syntax.Node) syntax.Node {
	op := r.take().Text
	right := inside(r, func() syntax.Node { return r.rightOperand(op) })
	return named(syntax.XInfix, left.At, op, left, right)
}

// rightOperand reads the right operand of an operator; if that associates from
// the right, what stands behind others of its precedence belongs to it. None
// of them may associate differently.
func (r *reader) rightOperand(op string) syntax.Node {
	precedence := tokens.Precedence(op)
	n := r.infix(precedence + 1)
	if r.operatorPrecedence() != precedence {
		return n
	}
	if tokens.Right(r.token().Text) != tokens.Right(op) {
		panic(r.stuck())
	}
	if tokens.Right(op) {
		return r.binary(n)
	}
	return n
}

func isPrefix(t tokens.Token) bool {
	if t.Kind == tokens.Op {
		switch t.Text {
		case "-", "!", "~", "+":
			return true
		}
	}
	return false
}

func (r *reader) prefix() syntax.Node {
	if isPrefix(r.token()) {
		return inside(r, r.prefixed)
	}
	return r.simple()
}

func (r *reader) prefixed() syntax.Node {
	op := r.take()
	return named(syntax.XPrefix, op.At, op.Text, r.prefix())
}

// simple reads an atom, and what is selected from it and applied to it.
func (r *reader) simple() syntax.Node {
	n := r.atom()
	for {
		switch {
		case r.accept("."):
			n = named(syntax.XSelect, n.At, r.id(), n)
		case r.accept("["):
			types := separated(r, r.typ, ",")
			r.expect("]")
			n = tree(syntax.XTypes, n.At, append([]syntax.Node{n}, types...)...)
		case r.accept("("):
			n = r.application(n)
		case r.is("{"):
			n = tree(syntax.XApply, n.At, n, r.block())
		default:
			return n
		}
	}
}

// application reads the arguments of a function.
func (r *reader) application(function syntax.Node) syntax.Node {
	n := tree(syntax.XApply, function.At, function)
	if r.accept("using") {
		n.Num = 1
	}
	n.Kids = append(n.Kids, upTo(r, r.argument, ")")...)
	return n
}

func (r *reader) argument() syntax.Node {
	t := r.token()
	if t.Kind == tokens.Name && r.isAt(r.next+1, "=") {
		r.take()
		r.take()
		return named(syntax.XNamed, t.At, t.Text, r.expr())
	}
	return r.expr()
}

func (r *reader) atom() syntax.Node {
	at := r.here()
	switch {
	case r.isLiteral():
		return r.literal()
	case r.token().Kind == tokens.Name:
		return named(syntax.XName, at, r.name())
	case r.token().Kind == tokens.Start:
		return r.interpolated()
	case r.isOpen():
		return r.block()
	case r.is("'{"):
		return tree(syntax.XQuote, at, r.block())
	case r.is("${"):
		return tree(syntax.XSplice, at, r.block())
	case r.accept("this"):
		return tree(syntax.XThis, at)
	case r.accept("super"):
		return r.superMember(at)
	case r.accept("new"):
		return r.newObject(at)
	case r.accept("("):
		return r.parentheses(at)
	}
	panic(r.stuck())
}

func (r *reader) isLiteral() bool {
	return literalKind(r.token()) != syntax.SNone
}

// literalKind returns the kind of the node of a literal of one token.
func literalKind(t tokens.Token) int {
	switch t.Kind {
	case tokens.Int:
		return syntax.XInt
	case tokens.Long:
		return syntax.XLong
	case tokens.Char:
		return syntax.XChar
	case tokens.String:
		return syntax.XString
	case tokens.Key:
		switch t.Text {
		case "true":
			return syntax.XTrue
		case "false":
			return syntax.XFalse
		case "null":
			return syntax.XNull
		}
	}
	return syntax.SNone
}

func (r *reader) literal() syntax.Node {
	t := r.take()
	n := tree(literalKind(t), t.At)
	switch t.Kind {
	case tokens.Int, tokens.Long:
		// The lexer has seen to it that the number is one of 64 bits.
		n.Num, _ = strconv.ParseInt(t.Text, 10, 64)
	case tokens.Char:
		n.Num = int64(t.Text[0])
	case tokens.String:
		n.Text = t.Text
	}
	return n
}

// block reads statements in braces (those of a quote or splice, too), or
// indented ones.
func (r *reader) block() syntax.Node {
	at := r.here()
	return tree(syntax.XBlock, at, enclosed(r, 0, r.statement)...)
}

// superMember reads what stands behind super.
func (r *reader) superMember(at int) syntax.Node {
	parent := ""
	if r.accept("[") {
		parent = r.name()
		r.expect("]")
	}
	r.expect(".")
	return named(syntax.XSelect, at, r.id(), named(syntax.XSuper, at, parent))
}

// newObject reads what stands behind new. A colon without an indentation is
// left to parentheses around.
func (r *reader) newObject(at int) syntax.Node {
	list := separated(r, r.parent, "with")
	parents := tree(syntax.SParents, list[0].At, list...)
	if r.is("{") || r.is(":") && r.at(r.next+1).Kind == tokens.Indent {
		return tree(syntax.XNew, at, parents, r.plainBody())
	}
	if r.is(":") {
		r.giveUp(r.next + 1)
	}
	return tree(syntax.XNew, at, parents, r.none())
}

// parentheses reads what stands behind an opening one.
func (r *reader) parentheses(at int) syntax.Node {
	if r.accept(")") {
		return tree(syntax.XUnit, at)
	}
	n := r.expr()
	if r.accept(":") {
		n = tree(syntax.XTyped, at, n, r.typ())
	}
	return r.closed(n, at)
}

// interpolated reads an interpolated string.
func (r *reader) interpolated() syntax.Node {
	start := r.take()
	n := named(syntax.XInterp, start.At, start.Text, r.part())
	for r.token().Kind != tokens.End {
		n.Kids = append(n.Kids, r.interpolation())
		n.Kids = append(n.Kids, r.part())
	}
	r.take()
	return n
}

// part reads a Part, which the lexer puts where one must stand.
func (r *reader) part() syntax.Node {
	t := r.take()
	return named(syntax.XString, t.At, t.Text)
}

// interpolation reads an expression in an interpolated string.
func (r *reader) interpolation() syntax.Node {
	at := r.here()
	switch {
	case r.accept("${"):
		n := r.expr()
		r.expect("}")
		return n
	case r.accept("this"):
		return tree(syntax.XThis, at)
	}
	return named(syntax.XName, at, r.name())
}
