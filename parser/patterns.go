package parser

import (
	"strings"

	"newel/syntax"
	"newel/tokens"
)

func (r *reader) pattern() syntax.Node {
	return inside(r, r.anyPattern)
}

func (r *reader) anyPattern() syntax.Node {
	list := separated(r, r.onePattern, "|")
	if len(list) == 1 {
		return list[0]
	}
	return tree(syntax.PAlt, list[0].At, list...)
}

// onePattern reads a pattern without alternatives.
func (r *reader) onePattern() syntax.Node {
	at := r.here()
	switch {
	case r.token().Kind == tokens.Name:
		return r.namedPattern()
	case r.isLiteral():
		return tree(syntax.PLiteral, at, r.literal())
	case r.accept("_"):
		if r.accept(":") {
			return named(syntax.PTyped, at, "_", r.patternType())
		}
		return tree(syntax.PWild, at)
	case r.accept("-"):
		return tree(syntax.PLiteral, at, named(syntax.XPrefix, at, "-", r.number()))
	case r.accept("("):
		if r.accept(")") {
			return tree(syntax.PLiteral, at, tree(syntax.XUnit, at))
		}
		return r.closed(r.pattern(), at)
	}
	panic(r.stuck())
}

// number reads an Int or a Long.
func (r *reader) number() syntax.Node {
	if kind := r.token().Kind; kind != tokens.Int && kind != tokens.Long {
		panic(r.stuck())
	}
	return r.literal()
}

// namedPattern reads a pattern that begins with a Name.
func (r *reader) namedPattern() syntax.Node {
	at := r.here()
	path := separated(r, r.name, ".")
	if len(path) == 1 {
		switch {
		case r.accept("@"):
			return named(syntax.PBind, at, path[0], inside(r, r.onePattern))
		case r.accept(":"):
			return named(syntax.PTyped, at, path[0], r.patternType())
		}
	}
	text := strings.Join(path, ".")
	switch {
	case r.accept("("):
		return named(syntax.PApply, at, text, upTo(r, r.pattern, ")")...)
	case len(path) == 1 && isVariable(text):
		return named(syntax.PBind, at, text, r.empty(syntax.PWild))
	}
	return named(syntax.PStable, at, text)
}

// isVariable reports whether a name in a pattern is one that it binds.
func isVariable(name string) bool {
	return name[0] >= 'a' && name[0] <= 'z' || name[0] == '_'
}

// patternType reads the type of a pattern. A | behind it belongs to the type,
// if a type follows, and otherwise to the pattern.
func (r *reader) patternType() syntax.Node {
	t := r.andType()
	for r.is("|") {
		right, ok := r.typeAlternative()
		if !ok {
			break
		}
		t = tree(syntax.TOr, t.At, t, right)
	}
	return t
}

// typeAlternative reads | and the type behind it. It goes back if there is
// none, or a name with which a pattern begins.
func (r *reader) typeAlternative() (syntax.Node, bool) {
	return attempt(r, func() syntax.Node {
		r.take()
		t := r.andType()
		if r.is("(") || r.is("@") || r.is(":") {
			panic(r.stuck())
		}
		return t
	})
}
