package parser

import (
	"newel/syntax"
	"newel/tokens"
)

func (r *reader) typ() syntax.Node {
	return inside(r, r.anyType)
}

func (r *reader) anyType() syntax.Node {
	switch {
	case r.is("["):
		return r.typeLambda()
	case r.is("(") && r.isAt(r.partner[r.next]+1, "=>"):
		return r.functionType()
	}
	t := r.orType()
	switch {
	case r.endsGuard(r.next):
		return t
	case r.accept("=>"):
		return tree(syntax.TFunction, t.At, t, r.typ())
	case r.accept("match"):
		return r.matchType(t)
	}
	return t
}

func (r *reader) typeLambda() syntax.Node {
	names := r.typeParams()
	r.expect("=>>")
	return tree(syntax.TLambda, names.At, names, r.typ())
}

// functionType reads the type of functions with parameters in parentheses, or
// a type in parentheses, if the => behind it ends a guard.
func (r *reader) functionType() syntax.Node {
	if r.endsGuard(r.partner[r.next] + 1) {
		return r.orType()
	}
	at := r.take().At
	kids := upTo(r, r.typ, ")")
	r.expect("=>")
	kids = append(kids, r.typ())
	return tree(syntax.TFunction, at, kids...)
}

// matchType reads the cases of a match type.
func (r *reader) matchType(t syntax.Node) syntax.Node {
	if !r.isOpen() {
		panic(r.stuck())
	}
	n := tree(syntax.TMatch, t.At, t)
	n.Kids = append(n.Kids, enclosed(r, 1, r.typeCase)...)
	return n
}

func (r *reader) typeCase() syntax.Node {
	at := r.here()
	r.expect("case")
	pattern := r.orType()
	r.expect("=>")
	return tree(syntax.TCase, at, pattern, r.typ())
}

// orType reads a type without => and match at its end.
func (r *reader) orType() syntax.Node {
	return fromLeft(syntax.TOr, separated(r, r.andType, "|"))
}

func (r *reader) andType() syntax.Node {
	return fromLeft(syntax.TAnd, separated(r, r.simpleType, "&"))
}

// fromLeft joins operands two by two.
func fromLeft(kind int, operands []syntax.Node) syntax.Node {
	n := operands[0]
	for _, right := range operands[1:] {
		n = tree(kind, n.At, n, right)
	}
	return n
}

func (r *reader) simpleType() syntax.Node {
	n := r.bareType()
	for r.accept("[") {
		args := separated(r, r.typeArg, ",")
		r.expect("]")
		n = tree(syntax.TApply, n.At, append([]syntax.Node{n}, args...)...)
	}
	return n
}

// bareType reads a simple type without type arguments.
func (r *reader) bareType() syntax.Node {
	at := r.here()
	if r.accept("(") {
		return r.closed(r.typ(), at)
	}
	if r.accept("this") {
		r.expect(".")
		return r.memberType(tree(syntax.XThis, at))
	}
	name := r.name()
	if r.acceptPoint() {
		return r.memberType(named(syntax.XName, at, name))
	}
	return named(syntax.TName, at, name)
}

// memberType reads what stands behind a path and a point: the member of the
// path that the last name means, or the type of the path itself.
func (r *reader) memberType(path syntax.Node) syntax.Node {
	for {
		if r.accept("type") {
			return tree(syntax.TSingle, path.At, path)
		}
		name := r.name()
		if !r.acceptPoint() {
			return named(syntax.TSelect, path.At, name, path)
		}
		path = named(syntax.XSelect, path.At, name, path)
	}
}

// acceptPoint goes on behind a point in a type. One in front of an operator is
// none: there a member of a new object is selected.
func (r *reader) acceptPoint() bool {
	if r.is(".") && r.at(r.next+1).Kind == tokens.Op {
		r.giveUp(r.next + 1)
		return false
	}
	return r.accept(".")
}

func (r *reader) typeArg() syntax.Node {
	at := r.here()
	if r.accept("_") {
		return tree(syntax.TWild, at, r.typeBehind(">:"), r.typeBehind("<:"))
	}
	return r.typ()
}
