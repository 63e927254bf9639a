package printer

import "newel/syntax"

func (w *writer) application(n *syntax.Node) {
	args := n.Kids[1:]
	w.within(rankSimple, &n.Kids[0])
	if n.Num == 0 && len(args) == 1 && args[0].Kind == syntax.XBlock {
		w.put(" ")
		w.node(&args[0])
		return
	}
	w.inParentheses(n.Num == 1, w.argument, args...)
}

// argument writes an argument. An assignment to a name would be a named one.
func (w *writer) argument(n *syntax.Node) {
	if n.Kind == syntax.XAssign && n.Text == "=" && n.Kids[0].Kind == syntax.XName {
		w.within(rankJoined, n)
	} else {
		w.node(n)
	}
}

func (w *writer) namedArgument(n *syntax.Node) {
	w.put(n.Text, " = ")
	w.node(&n.Kids[0])
}

func (w *writer) assignment(n *syntax.Node) {
	w.within(rankJoined, &n.Kids[0])
	w.put(" ", n.Text, " ")
	w.node(&n.Kids[1])
}

func (w *writer) super(n *syntax.Node) {
	w.put("super")
	if n.Text != "" {
		w.put("[", n.Text, "]")
	}
}

func (w *writer) ifElse(n *syntax.Node) {
	w.put("if ")
	w.condition(&n.Kids[0])
	if n.Kids[2].Kind == syntax.SNone {
		w.node(&n.Kids[1])
		return
	}
	w.unlessOpen(lacksElse, &n.Kids[1])
	w.put(" else ")
	w.node(&n.Kids[2])
}

// condition writes a condition and a blank behind it.
func (w *writer) condition(n *syntax.Node) {
	w.inParentheses(false, w.node, *n)
	w.put(" ")
}

func (w *writer) while(n *syntax.Node) {
	w.put("while ")
	w.condition(&n.Kids[0])
	w.node(&n.Kids[1])
}

func (w *writer) loop(n *syntax.Node) {
	last := len(n.Kids) - 1
	w.put("for ")
	w.enclosed("(", func() { w.list("; ", w.node, n.Kids[:last]...) }, ")")
	if n.Num == 1 {
		w.put(" yield ")
	} else {
		w.put(" do ")
	}
	w.node(&n.Kids[last])
}

func (w *writer) generator(n *syntax.Node) {
	w.node(&n.Kids[0])
	w.put(" <- ")
	w.node(&n.Kids[1])
}

func (w *writer) binding(n *syntax.Node) {
	w.node(&n.Kids[0])
	w.put(" = ")
	w.node(&n.Kids[1])
}

func (w *writer) guard(n *syntax.Node) {
	w.put("if ")
	w.node(&n.Kids[0])
}

// match writes a match of an expression, or a match type.
func (w *writer) match(n *syntax.Node) {
	w.within(rankJoined, &n.Kids[0])
	w.put(" match ")
	w.inBraces(n.Kids[1:]...)
}

// matchCase writes a case. A guard stands in parentheses if an => in it could
// be taken for that of the case.
func (w *writer) matchCase(n *syntax.Node) {
	w.put("case ")
	w.node(&n.Kids[0])
	if guard := &n.Kids[1]; guard.Kind != syntax.SNone {
		w.put(" if ")
		w.within(rankInfix, guard)
	}
	w.put(" => ")
	w.node(&n.Kids[2])
}

func (w *writer) try(n *syntax.Node) {
	cases, finally := n.Kids[1].Kids, &n.Kids[2]
	w.put("try ")
	if len(cases) > 0 || finally.Kind != syntax.SNone {
		w.unlessOpen(lacksFinally, &n.Kids[0])
	} else {
		w.node(&n.Kids[0])
	}
	if len(cases) > 0 {
		w.put(" catch ")
		w.inBraces(cases...)
	}
	w.ifAny(" finally ", finally)
}

func (w *writer) throw(n *syntax.Node) {
	w.put("throw ")
	w.node(&n.Kids[0])
}

func (w *writer) returned(n *syntax.Node) {
	w.put("return")
	w.ifAny(" ", &n.Kids[0])
}

func (w *writer) lambda(n *syntax.Node) {
	last := len(n.Kids) - 1
	if last == 1 && n.Kids[0].Kids[0].Kind == syntax.SNone {
		w.node(&n.Kids[0])
	} else {
		w.inParentheses(false, w.node, n.Kids[:last]...)
	}
	w.put(" => ")
	w.node(&n.Kids[last])
}

func (w *writer) lambdaParam(n *syntax.Node) {
	w.put(n.Text)
	if t := &n.Kids[0]; t.Kind != syntax.SNone {
		w.put(": ")
		w.within(rankJoined, t)
	}
}

func (w *writer) statements(n *syntax.Node) {
	w.block("{", n.Kids...)
}

func (w *writer) quote(n *syntax.Node) {
	w.block("'{", n.Kids[0].Kids...)
}

func (w *writer) splice(n *syntax.Node) {
	w.block("${", n.Kids[0].Kids...)
}

func (w *writer) newObject(n *syntax.Node) {
	w.put("new ")
	w.node(&n.Kids[0])
	if body := &n.Kids[1]; body.Kind == syntax.SBody {
		w.put(" ")
		w.inBraces(body.Kids...)
	}
}

func (w *writer) typed(n *syntax.Node) {
	w.enclosed("(", func() {
		w.node(&n.Kids[0])
		w.put(": ")
		w.node(&n.Kids[1])
	}, ")")
}

// unlessOpen writes an expression behind which a keyword stands, in
// parentheses if that would belong to an expression at its end.
func (w *writer) unlessOpen(isOpen func(*syntax.Node) bool, n *syntax.Node) {
	least := rankWhole
	for end := n; end != nil; end = lastPart(end) {
		if isOpen(end) {
			least = rankJoined
		}
	}
	w.within(least, n)
}

func lacksElse(n *syntax.Node) bool {
	return n.Kind == syntax.XIf && n.Kids[2].Kind == syntax.SNone
}

func lacksFinally(n *syntax.Node) bool {
	return n.Kind == syntax.XTry && n.Kids[2].Kind == syntax.SNone
}

// lastPart returns the expression with which an expression ends that has no
// end of its own, or nil.
func lastPart(n *syntax.Node) *syntax.Node {
	if rank(n) != rankWhole {
		return nil
	}
	for i := len(n.Kids) - 1; i >= 0; i-- {
		kid := &n.Kids[i]
		switch {
		case isExpr(kid.Kind):
			return kid
		case len(kid.Kids) > 0: // cases behind catch
			return nil
		}
	}
	return nil
}
