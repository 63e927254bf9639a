package parser

import (
	"newel/syntax"
	"newel/tokens"
)

func (r *reader) expr() syntax.Node {
	return inside(r, r.anyExpr)
}

func (r *reader) anyExpr() syntax.Node {
	if arrow := r.lambdaArrow(); arrow > 0 {
		return r.lambda(arrow)
	}
	switch {
	case r.is("if"):
		return r.ifExpr()
	case r.is("while"):
		return r.whileExpr()
	case r.is("for"):
		return r.forExpr()
	case r.is("try"):
		return r.tryExpr()
	case r.is("throw"):
		at := r.take().At
		return tree(syntax.XThrow, at, r.expr())
	case r.is("return"):
		return r.returnExpr()
	}
	return r.assignment()
}

// beginsExpr reports whether a token is the first one of an expression.
func (r *reader) beginsExpr(index int) bool {
	t := r.at(index)
	switch t.Kind {
	case tokens.Name, tokens.Int, tokens.Long, tokens.Char, tokens.String, tokens.Start, tokens.Indent:
		return true
	case tokens.Op:
		return isPrefix(t)
	case tokens.Mark:
		switch t.Text {
		case "(", "{", "'{", "${", "_":
			return true
		}
	case tokens.Key:
		switch t.Text {
		case "if", "while", "for", "try", "throw", "return", "true", "false", "null", "this", "super", "new":
			return true
		}
	}
	return false
}

// lambdaArrow returns the index of the => of a lambda that may come next, or 0
// if none comes.
func (r *reader) lambdaArrow() int {
	arrow := r.next + 1
	switch {
	case r.is("_"):
		return arrow
	case r.is("("):
		arrow = r.partner[r.next] + 1
	case r.token().Kind != tokens.Name:
		return 0
	}
	if r.isAt(arrow, "=>") {
		return arrow
	}
	return 0
}

// lambda reads a lambda, or what looks like its parameters, if the => behind
// that ends a guard.
func (r *reader) lambda(arrow int) syntax.Node {
	if r.endsGuard(arrow) {
		return r.assignment()
	}
	at := r.here()
	var kids []syntax.Node
	if r.accept("(") {
		kids = upTo(r, r.lambdaParam, ")")
	} else {
		kids = append(kids, named(syntax.SLambdaParam, at, r.lambdaName(), r.none()))
	}
	r.expect("=>")
	kids = append(kids, r.expr())
	return tree(syntax.XLambda, at, kids...)
}

func (r *reader) lambdaParam() syntax.Node {
	n := r.empty(syntax.SLambdaParam)
	n.Text = r.lambdaName()
	if r.accept(":") {
		n.Kids = append(n.Kids, r.orType())
	} else {
		n.Kids = append(n.Kids, r.none())
	}
	return n
}

func (r *reader) lambdaName() string {
	if r.accept("_") {
		return "_"
	}
	return r.name()
}

func (r *reader) ifExpr() syntax.Node {
	at := r.take().At
	cond := r.condition("then")
	then := r.expr()
	if r.acceptBehindLines("else") {
		return tree(syntax.XIf, at, cond, then, r.expr())
	}
	return tree(syntax.XIf, at, cond, then, r.none())
}

func (r *reader) whileExpr() syntax.Node {
	at := r.take().At
	cond := r.condition("do")
	return tree(syntax.XWhile, at, cond, r.expr())
}

// condition reads a condition, and the keyword behind it, which may be left
// out behind parentheses.
func (r *reader) condition(keyword string) syntax.Node {
	if r.accept("(") {
		n := r.expr()
		r.expect(")")
		r.accept(keyword)
		return n
	}
	n := withinGuard(r, r.expr)
	r.expect(keyword)
	return n
}

func (r *reader) returnExpr() syntax.Node {
	at := r.take().At
	if r.beginsExpr(r.next) {
		return tree(syntax.XReturn, at, r.expr())
	}
	return tree(syntax.XReturn, at, r.none())
}

func (r *reader) assignment() syntax.Node {
	left := r.operation()
	t := r.token()
	if r.is("=") || t.Kind == tokens.Op && tokens.Assigns(t.Text) {
		r.take()
		return named(syntax.XAssign, left.At, t.Text, left, r.expr())
	}
	return left
}

func (r *reader) forExpr() syntax.Node {
	n := tree(syntax.XFor, r.take().At)
	inBrackets := true
	switch {
	case r.accept("{"):
		n.Kids = r.enumerators()
		r.expect("}")
	case r.is("(") && r.bracketsEnumerators():
		r.take()
		n.Kids = r.enumerators()
		r.expect(")")
	default:
		inBrackets = false
		n.Kids = withinGuard(r, r.enumerators)
	}
	switch {
	case r.accept("yield"):
		n.Num = 1
	case !r.accept("do") && !inBrackets:
		panic(r.stuck())
	}
	n.Kids = append(n.Kids, r.expr())
	return n
}

// bracketsEnumerators reports whether the parenthesis that comes next is that
// of enumerators, and not that of a pattern, inside of which there is no <-
// and no line end.
func (r *reader) bracketsEnumerators() bool {
	for i := r.next; i < r.partner[r.next]; i++ {
		if r.isAt(i, "<-") || r.isLineEnd(i) {
			return true
		}
	}
	return false
}

// enumerators reads a generator, and what follows it on lines of its own or,
// of guards, anywhere.
func (r *reader) enumerators() []syntax.Node {
	r.skipLines()
	list := []syntax.Node{r.generator()}
	for {
		isLine := r.skipLines()
		if !r.is("if") && (!isLine || r.endsEnumerators()) {
			return list
		}
		list = append(list, r.enumerator())
	}
}

func (r *reader) endsEnumerators() bool {
	return r.is("}") || r.is(")") || r.is("yield") || r.is("do")
}

func (r *reader) generator() syntax.Node {
	p := r.pattern()
	r.expect("<-")
	return tree(syntax.SGenerator, p.At, p, r.expr())
}

func (r *reader) enumerator() syntax.Node {
	at := r.here()
	if r.accept("if") {
		return tree(syntax.SGuard, at, r.expr())
	}
	p := r.pattern()
	if r.accept("=") {
		return tree(syntax.SBinding, p.At, p, r.expr())
	}
	r.expect("<-")
	return tree(syntax.SGenerator, p.At, p, r.expr())
}

func (r *reader) tryExpr() syntax.Node {
	at := r.take().At
	tried := r.expr()
	caught := r.empty(syntax.SCases)
	if r.acceptBehindLines("catch") {
		caught = r.cases()
	}
	if r.acceptBehindLines("finally") {
		return tree(syntax.XTry, at, tried, caught, r.expr())
	}
	return tree(syntax.XTry, at, tried, caught, r.none())
}
