package parser

import (
	"newel/api"
	"newel/syntax"
)

// The Num of SParam is a sum of these.
const (
	byName   = 1
	repeated = 2
	valParam = 4
	varParam = 8
)

// typeParams reads type parameters in square brackets, if there are any.
func (r *reader) typeParams() syntax.Node {
	n := r.empty(syntax.SNames)
	if r.accept("[") {
		n.Kids = separated(r, r.typeParam, ",")
		r.expect("]")
	}
	return n
}

func (r *reader) typeParam() syntax.Node {
	n := r.empty(syntax.STParam)
	switch {
	case r.accept("+"):
		n.Num = api.Covariant
	case r.accept("-"):
		n.Num = api.Contravariant
	}
	n.Text = r.name()
	var params []syntax.Node
	if r.accept("[") {
		params = separated(r, r.blank, ",")
		r.expect("]")
	}
	n.Kids = append(n.Kids, r.typeBehind(">:"), r.typeBehind("<:"))
	n.Kids = append(n.Kids, params...)
	return n
}

// blank reads the parameter of a type parameter, which has no name.
func (r *reader) blank() syntax.Node {
	n := r.none()
	r.expect("_")
	return n
}

func (r *reader) lists() syntax.Node {
	n := r.empty(syntax.SLists)
	for r.is("(") {
		n.Kids = append(n.Kids, r.params())
	}
	return n
}

func (r *reader) params() syntax.Node {
	n := r.empty(syntax.SParams)
	r.take()
	if r.accept("using") {
		n.Num = 1
	}
	n.Kids = upTo(r, r.param, ")")
	return n
}

func (r *reader) param() syntax.Node {
	mods := r.mods()
	n := named(syntax.SParam, mods.At, "", mods)
	switch {
	case r.accept("val"):
		n.Num = valParam
	case r.accept("var"):
		n.Num = varParam
	}
	n.Text = r.name()
	r.expect(":")
	isByName := r.accept("=>")
	t := r.typ()
	switch {
	case isByName:
		n.Num += byName
	case r.accept("*"):
		n.Num += repeated
	}
	n.Kids = append(n.Kids, t, r.value())
	return n
}
