package parser

import (
	"slices"
	"strings"

	"newel/api"
	"newel/syntax"
	"newel/tokens"
)

// The Num of SClass.
const (
	plainClass = iota
	plainTrait
	plainObject
	caseClass
	caseObject
	enumClass
)

// The Num of SVal.
const (
	plainVal = iota
	plainVar
	lazyVal
)

// unit reads the definitions of a text.
func (r *reader) unit() syntax.Node {
	at := r.at(0).At
	return tree(syntax.SUnit, at, lines(r, 0, r.definition)...)
}

// beginsDefinition reports whether a token is the first one of a definition.
func (r *reader) beginsDefinition(index int) bool {
	t := r.at(index)
	if t.Kind != tokens.Key {
		return false
	}
	switch t.Text {
	case "import", "extension", "case", "class", "trait", "object", "enum", "def", "lazy", "val", "var", "type", "given":
		return true
	}
	return modifier(t) != 0
}

func (r *reader) definition() syntax.Node {
	switch {
	case r.is("import"):
		return r.imports()
	case r.is("extension"):
		return r.extension()
	}
	mods := r.mods()
	switch {
	case r.is("def"):
		return r.def(mods)
	case r.is("lazy"), r.is("val"), r.is("var"):
		return r.val(mods)
	case r.is("type"):
		return r.typeDefinition(mods)
	case r.is("given"):
		return r.given(mods)
	}
	return r.class(mods)
}

func (r *reader) imports() syntax.Node {
	at := r.take().At
	path := []string{r.name()}
	for r.accept(".") {
		if r.accept("*") {
			path = append(path, "*")
			break
		}
		path = append(path, r.name())
	}
	return named(syntax.SImport, at, strings.Join(path, "."))
}

// modifier returns the flag of a keyword, or 0 if it is none.
func modifier(t tokens.Token) int64 {
	if t.Kind != tokens.Key {
		return 0
	}
	switch t.Text {
	case "abstract":
		return api.Abstract
	case "final":
		return api.Final
	case "sealed":
		return api.Sealed
	case "private":
		return api.Private
	case "override":
		return api.Override
	case "volatile":
		return api.Volatile
	case "inline":
		return api.Inline
	}
	return 0
}

// mods reads modifiers, none of which may stand there twice.
func (r *reader) mods() syntax.Node {
	n := r.empty(syntax.SMods)
	for {
		flag := modifier(r.token())
		switch {
		case flag == 0:
			return n
		case n.Num&flag != 0:
			panic(r.stuck())
		}
		n.Num += flag
		r.take()
	}
}

func (r *reader) class(mods syntax.Node) syntax.Node {
	n := named(syntax.SClass, mods.At, "", mods)
	n.Num = r.classKind()
	n.Text = r.name()
	if n.Num == plainObject || n.Num == caseObject {
		n.Kids = append(n.Kids, r.empty(syntax.SNames), r.empty(syntax.SLists))
	} else {
		n.Kids = append(n.Kids, r.typeParams(), r.lists())
	}
	n.Kids = append(n.Kids, r.parents(), r.classBody(n.Num == enumClass))
	return n
}

// classKind reads the keywords in front of the name of a class.
func (r *reader) classKind() int64 {
	isCase := r.accept("case")
	switch {
	case r.accept("class"):
		if isCase {
			return caseClass
		}
		return plainClass
	case r.accept("object"):
		if isCase {
			return caseObject
		}
		return plainObject
	case !isCase && r.accept("trait"):
		return plainTrait
	case !isCase && r.accept("enum"):
		return enumClass
	}
	panic(r.stuck())
}

// classBody reads the body of a class, which an enum must have.
func (r *reader) classBody(isEnum bool) syntax.Node {
	switch {
	case isEnum:
		at := r.here()
		return tree(syntax.SBody, at, slices.Concat(body(r, 0, r.enumStatement)...)...)
	case r.is("{"), r.is(":"):
		return r.plainBody()
	}
	return r.none()
}

func (r *reader) plainBody() syntax.Node {
	at := r.here()
	return tree(syntax.SBody, at, body(r, 0, r.statement)...)
}

// body reads at least so many items, in braces, or indented behind a colon.
func body[T any](r *reader, least int, item func() T) []T {
	if r.accept(":") {
		if r.token().Kind != tokens.Indent {
			panic(r.stuck())
		}
	} else if !r.is("{") {
		panic(r.stuck())
	}
	return enclosed(r, least, item)
}

func (r *reader) statement() syntax.Node {
	return inside(r, r.anyStatement)
}

func (r *reader) anyStatement() syntax.Node {
	if r.beginsDefinition(r.next) {
		return r.definition()
	}
	return r.expr()
}

// enumStatement reads a statement of an enum, which may define several cases.
func (r *reader) enumStatement() []syntax.Node {
	return inside(r, func() []syntax.Node {
		if r.is("case") && r.at(r.next+1).Kind == tokens.Name {
			return r.enumCases()
		}
		return []syntax.Node{r.anyStatement()}
	})
}

func (r *reader) enumCases() []syntax.Node {
	at := r.take().At
	if r.isAt(r.next+1, ",") {
		return separated(r, r.bareEnumCase, ",")
	}
	name := r.name()
	return []syntax.Node{named(syntax.SEnumCase, at, name, r.typeParams(), r.lists(), r.parents())}
}

// bareEnumCase reads one of several cases, which have names alone.
func (r *reader) bareEnumCase() syntax.Node {
	at := r.here()
	name := r.name()
	return named(syntax.SEnumCase, at, name, r.empty(syntax.SNames), r.empty(syntax.SLists), r.empty(syntax.SParents))
}

func (r *reader) parents() syntax.Node {
	n := r.empty(syntax.SParents)
	if r.accept("extends") {
		n.Kids = separated(r, r.parent, "with", ",")
	}
	return n
}

func (r *reader) parent() syntax.Node {
	t := r.simpleType()
	n := tree(syntax.SParent, t.At, t)
	if r.is("(") && r.isAt(r.next+1, "using") {
		r.giveUp(r.next + 1)
	} else if r.accept("(") {
		n.Num = 1
		n.Kids = append(n.Kids, upTo(r, r.expr, ")")...)
	}
	return n
}

func (r *reader) def(mods syntax.Node) syntax.Node {
	r.take()
	name := r.id()
	return named(syntax.SDef, mods.At, name, mods, r.typeParams(), r.lists(), r.typeBehind(":"), r.value())
}

func (r *reader) val(mods syntax.Node) syntax.Node {
	num := int64(plainVal)
	switch {
	case r.accept("var"):
		num = plainVar
	case r.accept("lazy"):
		num = lazyVal
		r.expect("val")
	default:
		r.take()
	}
	name := r.name()
	n := named(syntax.SVal, mods.At, name, mods, r.typeBehind(":"), r.value())
	n.Num = num
	return n
}

// typeBehind reads a type behind a mark, if that stands there.
func (r *reader) typeBehind(mark string) syntax.Node {
	if r.accept(mark) {
		return r.typ()
	}
	return r.none()
}

// value reads an expression behind =, if that stands there.
func (r *reader) value() syntax.Node {
	if r.accept("=") {
		return r.expr()
	}
	return r.none()
}

func (r *reader) typeDefinition(mods syntax.Node) syntax.Node {
	r.take()
	n := named(syntax.SType, mods.At, r.name(), mods, r.typeParams())
	if r.is("=") {
		n.Kids = append(n.Kids, r.none(), r.none(), r.typeBehind("="))
	} else {
		n.Kids = append(n.Kids, r.typeBehind(">:"), r.typeBehind("<:"), r.none())
	}
	return n
}

func (r *reader) given(mods syntax.Node) syntax.Node {
	r.take()
	n := named(syntax.SGiven, mods.At, "", mods)
	if r.isNamedGiven() {
		n.Text = r.name()
		n.Kids = append(n.Kids, r.typeParams(), r.lists())
		r.expect(":")
	} else {
		n.Kids = append(n.Kids, r.empty(syntax.SNames), r.empty(syntax.SLists))
	}
	t := r.typ()
	r.expect("=")
	n.Kids = append(n.Kids, t, r.expr())
	return n
}

// isNamedGiven reports whether the name of a given value comes next: a : or (
// stands behind it, or behind the square brackets that follow it.
func (r *reader) isNamedGiven() bool {
	behind := r.next + 1
	if r.isAt(behind, "[") {
		behind = r.partner[behind] + 1
	}
	return r.token().Kind == tokens.Name && (r.isAt(behind, ":") || r.isAt(behind, "("))
}

func (r *reader) extension() syntax.Node {
	at := r.take().At
	names := r.typeParams()
	r.expect("(")
	param := r.param()
	r.expect(")")
	n := tree(syntax.SExtension, at, names, param)
	if r.is("{") || r.is(":") {
		n.Kids = append(n.Kids, body(r, 1, r.extensionDef)...)
	} else {
		n.Kids = append(n.Kids, r.extensionDef())
	}
	return n
}

func (r *reader) extensionDef() syntax.Node {
	mods := r.mods()
	if !r.is("def") {
		panic(r.stuck())
	}
	return r.def(mods)
}
