package desugar

import "newel/syntax"

// loop replaces one for expression.
type loop struct {
	maker
	fresh       func() string
	last, inner string // the methods for the last generator and for the others
	body        syntax.Node
}

func (r *replacer) loop(n syntax.Node) []syntax.Node {
	p := loop{maker: maker(n.At), fresh: r.fresh, last: "foreach", inner: "foreach"}
	if n.Num == yields {
		p.last, p.inner = "map", "flatMap"
	}
	end := len(n.Kids) - 1
	p.body = n.Kids[end]
	return one(p.calls(n.Kids[0], n.Kids[1:end]))
}

// calls returns the calls for a generator and the enumerators behind it.
func (p *loop) calls(generator syntax.Node, rest []syntax.Node) syntax.Node {
	pattern, from := generator.Kids[0], generator.Kids[1]
	for {
		count := bindings(rest)
		values, behind := rest[:count], rest[count:]
		if len(behind) > 0 && behind[0].Kind == syntax.SGuard {
			function := p.function(pattern)
			from = p.call(from, "withFilter", function(p.let(values, behind[0].Kids[0])))
			rest = joined(values, behind[1:]...)
			continue
		}
		// The fresh name of this function comes ahead of those inside of it.
		function := p.function(pattern)
		if len(behind) == 0 {
			return p.call(from, p.last, function(p.let(values, p.body)))
		}
		return p.call(from, p.inner, function(p.let(values, p.calls(behind[0], behind[1:]))))
	}
}

// bindings returns how many bindings a list begins with.
func bindings(l []syntax.Node) int {
	count := 0
	for count < len(l) && l[count].Kind == syntax.SBinding {
		count++
	}
	return count
}

// let returns an expression in which the names of bindings are known.
func (p *loop) let(values []syntax.Node, e syntax.Node) syntax.Node {
	for i := len(values) - 1; i >= 0; i-- {
		e = p.match(values[i].Kids[1], values[i].Kids[0], e)
	}
	return e
}

// match returns a match with one case.
func (p *loop) match(of, pattern, e syntax.Node) syntax.Node {
	return p.node(syntax.XMatch, "", of, p.node(syntax.SCase, "", pattern, p.none(), e))
}

// function returns what makes a lambda of its body, with a pattern as the
// parameter. The fresh name that the pattern may need is taken at once.
func (p *loop) function(pattern syntax.Node) func(e syntax.Node) syntax.Node {
	name, typed, plain := pattern.Text, p.none(), true
	switch {
	case pattern.Kind == syntax.PBind && pattern.Kids[0].Kind == syntax.PWild:
	case pattern.Kind == syntax.PTyped && name != "_":
		typed = pattern.Kids[0]
	default:
		name, plain = p.fresh(), false
	}
	return func(e syntax.Node) syntax.Node {
		if !plain {
			e = p.match(p.node(syntax.XName, name), pattern, e)
		}
		return p.node(syntax.XLambda, "", p.node(syntax.SLambdaParam, name, typed), e)
	}
}
