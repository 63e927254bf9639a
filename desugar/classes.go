package desugar

import (
	"newel/api"
	"newel/syntax"
)

// extension returns the methods of an extension: each has the type parameters
// and the parameter of the extension in front of its own.
func (r *replacer) extension(n syntax.Node) []syntax.Node {
	list := maker(n.At).node(syntax.SParams, "", n.Kids[1])
	var out []syntax.Node
	for _, def := range n.Kids[2:] {
		kids := joined(def.Kids)
		kids[1].Kids = joined(n.Kids[0].Kids, kids[1].Kids...)
		kids[2].Kids = joined(one(list), kids[2].Kids...)
		def.Num, def.Kids = extension, kids
		out = append(out, def)
	}
	return out
}

func (r *replacer) lists(n syntax.Node) []syntax.Node {
	if i := outOfOrder(&n); i >= 0 {
		panic(api.Fault{At: n.Kids[i].At, Code: api.ErrOrder})
	}
	return one(n)
}

// enumCase is the fault of a case outside of an enum: class takes away those
// inside.
func (r *replacer) enumCase(n syntax.Node) []syntax.Node {
	panic(api.Fault{At: n.At, Code: api.ErrForm})
}

// class returns the classes of an enum, or the class as it is.
func (r *replacer) class(n syntax.Node) []syntax.Node {
	if n.Num != enumClass {
		return one(n)
	}
	kids := joined(n.Kids)
	if kids[0].Num&api.Final != 0 {
		panic(api.Fault{At: n.At, Code: api.ErrFinal})
	}
	kids[0].Num |= api.Sealed | api.Abstract
	cases, others := divided(kids[4].Kids)
	kids[4].Kids = others
	if len(others) == 0 {
		kids[4] = maker(n.At).none()
	}
	out := one(syntax.Node{Kind: syntax.SClass, Text: n.Text, Num: plainClass, Kids: kids, At: n.At})
	for _, c := range cases {
		out = append(out, classOfCase(n, c))
	}
	if len(cases) == 0 {
		panic(api.Fault{At: n.At, Code: api.ErrEmpty})
	}
	return out
}

// divided returns the cases in the body of an enum, and the other statements.
func divided(body []syntax.Node) (cases, others []syntax.Node) {
	for _, s := range body {
		if s.Kind == syntax.SEnumCase {
			cases = append(cases, s)
		} else {
			others = append(others, s)
		}
	}
	return cases, others
}

// classOfCase returns the class or the object of a case of an enum.
func classOfCase(enum, n syntax.Node) syntax.Node {
	m := maker(n.At)
	names, lists, parents := n.Kids[0], n.Kids[1], n.Kids[2]
	num := int64(caseClass)
	if len(lists.Kids) == 0 {
		num = caseObject
		names.Kids = nil
	} else if len(names.Kids) == 0 && len(parents.Kids) == 0 {
		names.Kids = enum.Kids[1].Kids
	}
	if len(parents.Kids) == 0 {
		parents.Kids = one(m.node(syntax.SParent, "", parent(enum, m, num == caseObject)))
	}
	out := m.node(syntax.SClass, n.Text, m.node(syntax.SMods, ""), names, lists, parents, m.none())
	out.Num = num
	return out
}

// parent returns the type of an enum that a case without parents extends.
func parent(enum syntax.Node, m maker, object bool) syntax.Node {
	kids := one(m.node(syntax.TName, enum.Text))
	for _, t := range enum.Kids[1].Kids {
		name := t.Text
		if object {
			name = anyArgument(t.Num, m)
		}
		kids = append(kids, m.node(syntax.TName, name))
	}
	if len(kids) == 1 {
		return kids[0]
	}
	return m.node(syntax.TApply, "", kids...)
}

// anyArgument returns the type with which an application of an enum is one for
// all arguments, by the variance of the parameter.
func anyArgument(variance int64, m maker) string {
	switch variance {
	case api.Covariant:
		return "Nothing"
	case api.Contravariant:
		return "Any"
	}
	panic(api.Fault{At: int(m), Code: api.ErrVariance})
}
