package printer

import (
	"newel/api"
	"newel/syntax"
)

// The Num of SClass and SVal.
const (
	plainObject = 2
	caseObject  = 4
	enumClass   = 5

	plainVar = 1
	lazyVal  = 2
)

// The Num of SParam is a sum of these.
const (
	byName   = 1
	repeated = 2
	valParam = 4
	varParam = 8
)

func (w *writer) unit(n *syntax.Node) {
	w.lines(n.Kids...)
}

func (w *writer) imports(n *syntax.Node) {
	w.put("import ", n.Text)
}

// mods writes each modifier with a blank behind it.
func (w *writer) mods(n *syntax.Node) {
	for _, m := range []struct {
		flag int64
		word string
	}{
		{api.Abstract, "abstract "}, {api.Final, "final "}, {api.Sealed, "sealed "}, {api.Private, "private "},
		{api.Override, "override "}, {api.Volatile, "volatile "}, {api.Inline, "inline "},
	} {
		if n.Num&m.flag != 0 {
			w.put(m.word)
		}
	}
}

func (w *writer) class(n *syntax.Node) {
	keywords := []string{"class ", "trait ", "object ", "case class ", "case object ", "enum "}
	w.node(&n.Kids[0])
	w.put(keywords[n.Num], n.Text)
	w.node(&n.Kids[1])
	w.node(&n.Kids[2])
	w.extends(&n.Kids[3])
	if body := &n.Kids[4]; body.Kind == syntax.SBody {
		w.body(body.Kids...)
	}
}

func (w *writer) enumCase(n *syntax.Node) {
	w.put("case ", n.Text)
	w.node(&n.Kids[0])
	w.node(&n.Kids[1])
	w.extends(&n.Kids[2])
}

// extends writes the parents of a class, if it has any.
func (w *writer) extends(parents *syntax.Node) {
	if len(parents.Kids) > 0 {
		w.put(" extends ")
		w.node(parents)
	}
}

func (w *writer) parents(n *syntax.Node) {
	w.list(" with ", w.node, n.Kids...)
}

func (w *writer) parent(n *syntax.Node) {
	w.within(rankSimple, &n.Kids[0])
	if n.Num == 1 {
		w.enclosed("(", func() { w.list(", ", w.node, n.Kids[1:]...) }, ")")
	}
}

func (w *writer) def(n *syntax.Node) {
	w.node(&n.Kids[0])
	w.put("def ", n.Text)
	w.node(&n.Kids[1])
	w.node(&n.Kids[2])
	w.ifAny(": ", &n.Kids[3])
	w.value(&n.Kids[4])
}

func (w *writer) val(n *syntax.Node) {
	keyword := "val "
	switch n.Num {
	case plainVar:
		keyword = "var "
	case lazyVal:
		keyword = "lazy val "
	}
	w.node(&n.Kids[0])
	w.put(keyword, n.Text)
	w.ifAny(": ", &n.Kids[1])
	w.value(&n.Kids[2])
}

// ifAny writes a node that is not left out, behind a word.
func (w *writer) ifAny(word string, n *syntax.Node) {
	if n.Kind != syntax.SNone {
		w.put(word)
		w.node(n)
	}
}

// value writes the value of a definition, if it has one.
func (w *writer) value(n *syntax.Node) {
	if n.Kind == syntax.XBlock && w.isIndented(n.Kids) {
		w.put(" =")
		w.indented(n.Kids...)
		return
	}
	w.ifAny(" = ", n)
}

func (w *writer) typeDefinition(n *syntax.Node) {
	w.node(&n.Kids[0])
	w.put("type ", n.Text)
	w.node(&n.Kids[1])
	w.bounds(n.Kids[2:4]...)
	w.ifAny(" = ", &n.Kids[4])
}

// bounds writes a lower and an upper bound.
func (w *writer) bounds(n ...syntax.Node) {
	w.ifAny(" >: ", &n[0])
	w.ifAny(" <: ", &n[1])
}

func (w *writer) given(n *syntax.Node) {
	w.node(&n.Kids[0])
	w.put("given ")
	if n.Text != "" {
		w.put(n.Text)
		w.node(&n.Kids[1])
		w.node(&n.Kids[2])
		w.put(": ")
	}
	w.node(&n.Kids[3])
	w.value(&n.Kids[4])
}

func (w *writer) extension(n *syntax.Node) {
	w.put("extension ")
	w.node(&n.Kids[0])
	w.enclosed("(", func() { w.node(&n.Kids[1]) }, ")")
	if defs := n.Kids[2:]; len(defs) > 1 {
		w.body(defs...)
	} else {
		w.put(" ")
		w.node(&defs[0])
	}
}

func (w *writer) typeParams(n *syntax.Node) {
	if len(n.Kids) > 0 {
		w.enclosed("[", func() { w.list(", ", w.node, n.Kids...) }, "]")
	}
}

func (w *writer) typeParam(n *syntax.Node) {
	switch n.Num {
	case api.Covariant:
		w.put("+")
	case api.Contravariant:
		w.put("-")
	}
	w.put(n.Text)
	if blanks := n.Kids[2:]; len(blanks) > 0 {
		w.enclosed("[", func() { w.list(", ", w.blank, blanks...) }, "]")
	}
	w.bounds(n.Kids[:2]...)
}

// blank writes the parameter of a type parameter.
func (w *writer) blank(*syntax.Node) {
	w.put("_")
}

func (w *writer) lists(n *syntax.Node) {
	w.list("", w.node, n.Kids...)
}

func (w *writer) params(n *syntax.Node) {
	w.inParentheses(n.Num == 1, w.node, n.Kids...)
}

// inParentheses writes parameters or arguments, which may be those of a using
// list.
func (w *writer) inParentheses(using bool, write func(*syntax.Node), nodes ...syntax.Node) {
	w.enclosed("(", func() {
		if using {
			w.put("using")
			if len(nodes) > 0 {
				w.put(" ")
			}
		}
		w.list(", ", write, nodes...)
	}, ")")
}

func (w *writer) param(n *syntax.Node) {
	w.node(&n.Kids[0])
	switch {
	case n.Num&valParam != 0:
		w.put("val ")
	case n.Num&varParam != 0:
		w.put("var ")
	}
	w.put(n.Text, ": ")
	if n.Num&byName != 0 {
		w.put("=> ")
	}
	w.node(&n.Kids[1])
	if n.Num&repeated != 0 {
		w.put("*")
	}
	w.value(&n.Kids[2])
}
