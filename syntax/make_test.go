package syntax_test

import (
	"math/rand"
	"strings"
)

// maker makes text forms of random right trees. A budget goes down with the
// nesting; without one, forms are the smallest ones.
type maker struct {
	*rand.Rand
}

type form func(budget int) string

func (m maker) pick(l ...string) string {
	return l[m.Intn(len(l))]
}

func (m maker) choose(budget int, l ...form) string {
	return l[m.Intn(len(l))](budget - 1)
}

func (m maker) word() string {
	return m.pick("a", "b1", "_x", "Int", "C", "foo", "if", "x_y")
}

func (m maker) name() string {
	return m.pick(m.word(), "+", "::", "<=", "==", "?", "~^&|!%*/-")
}

func (m maker) path() string {
	return m.word() + m.pick("", "."+m.word(), ".a.b.c")
}

// some makes a number of forms, each with a blank in front.
func (m maker) some(least, most, budget int, f form) string {
	var b strings.Builder
	for range least + m.Intn(most-least+1) {
		b.WriteString(" " + f(budget))
	}
	return b.String()
}

// maybe makes a form or (SNone), with a blank in front.
func (m maker) maybe(budget int, f form) string {
	if budget <= 0 || m.Intn(2) == 0 {
		return " (SNone)"
	}
	return " " + f(budget)
}

func (m maker) mods() string {
	return m.pick(" (SMods)", " (SMods 1)", " (SMods 4639)", " (SMods 512)", " (SMods 24)")
}

func (m maker) typeParams(b int) string {
	return " (SNames" + m.some(0, 2, b, func(b int) string {
		return `(STParam "` + m.word() + `"` + m.pick("", " 1", " -1") + m.maybe(b, m.aType) + m.maybe(b, m.aType) + times(m.Intn(3), "(SNone)") + ")"
	}) + ")"
}

func (m maker) param(b int) string {
	return `(SParam "` + m.word() + `"` + m.pick("", " 1", " 2", " 4", " 5", " 6", " 8", " 9", " 10") + m.mods() + " " + m.aType(b) + m.maybe(b, m.expression) + ")"
}

func (m maker) lists(b int) string {
	return " (SLists" + m.some(0, 4, b, func(b int) string {
		return "(SParams" + m.pick("", " 1") + m.some(0, 2, b, m.param) + ")"
	}) + ")"
}

func (m maker) parents(least, b int) string {
	return " (SParents" + m.some(least, 2, b, func(b int) string {
		if m.Intn(2) == 0 {
			return "(SParent " + m.aType(b) + ")"
		}
		return "(SParent 1 " + m.aType(b) + m.some(0, 2, b, m.expression) + ")"
	}) + ")"
}

func (m maker) body(b int) string {
	return m.maybe(b, func(b int) string { return "(SBody" + m.some(0, 3, b, m.statement) + ")" })
}

func (m maker) def(b int) string {
	return `(SDef "` + m.name() + `"` + m.signature(b) + m.maybe(b, m.aType) + m.maybe(b, m.expression) + ")"
}

func (m maker) signature(b int) string {
	return m.mods() + m.typeParams(b) + m.lists(b)
}

func (m maker) definition(b int) string {
	if b <= 0 {
		return `(SImport "` + m.path() + m.pick("", ".*") + `")`
	}
	return m.choose(b,
		m.def,
		func(b int) string {
			return `(SClass "` + m.name() + `"` + m.pick("", " 1", " 2", " 3", " 4", " 5") + m.signature(b) + m.parents(0, b) + m.body(b) + ")"
		},
		func(b int) string {
			return `(SVal "` + m.word() + `"` + m.pick("", " 1", " 2") + m.mods() + m.maybe(b, m.aType) + m.maybe(b, m.expression) + ")"
		},
		func(b int) string {
			return `(SType "` + m.word() + `"` + m.mods() + m.typeParams(b) + m.maybe(b, m.aType) + m.maybe(b, m.aType) + " (SNone))"
		},
		func(b int) string {
			return `(SType "` + m.word() + `"` + m.mods() + m.typeParams(b) + " (SNone) (SNone) " + m.aType(b) + ")"
		},
		func(b int) string {
			return "(SGiven" + m.pick("", ` "g"`) + m.signature(b) + " " + m.aType(b) + " " + m.expression(b) + ")"
		},
		func(b int) string {
			return "(SExtension" + m.typeParams(b) + " " + m.param(b) + m.some(1, 2, b, m.def) + ")"
		},
		func(b int) string {
			return `(SEnumCase "` + m.word() + `"` + m.typeParams(b) + m.lists(b) + m.parents(0, b) + ")"
		})
}

func (m maker) statement(b int) string {
	return m.choose(b, m.definition, m.expression)
}

func (m maker) selection(b int) string {
	if b <= 0 || m.Intn(2) == 0 {
		return m.pick(`(XName "`+m.name()+`")`, "(XThis)")
	}
	return `(XSelect "` + m.name() + `" ` + m.selection(b-1) + ")"
}

func (m maker) aType(b int) string {
	if b <= 0 {
		return `(TName "` + m.word() + `")`
	}
	return m.choose(b,
		func(b int) string { return `(TSelect "` + m.word() + `" ` + m.selection(b) + ")" },
		func(b int) string { return "(TSingle " + m.selection(b) + ")" },
		func(b int) string { return "(TApply " + m.aType(b) + m.some(1, 2, b, m.aType) + ")" },
		func(b int) string { return "(TFunction" + m.some(0, 2, b, m.aType) + " " + m.aType(b) + ")" },
		func(b int) string { return "(" + m.pick("TAnd", "TOr") + m.some(2, 2, b, m.aType) + ")" },
		func(b int) string { return "(TWild" + m.maybe(b, m.aType) + m.maybe(b, m.aType) + ")" },
		func(b int) string { return "(TLambda" + m.typeParams(b) + " " + m.aType(b) + ")" },
		func(b int) string {
			return "(TMatch " + m.aType(b) + m.some(1, 2, b, func(b int) string { return "(TCase" + m.some(2, 2, b, m.aType) + ")" }) + ")"
		})
}

func (m maker) literal() string {
	return m.pick("(XInt)", "(XInt 2147483647)", "(XLong 9223372036854775807)", "(XChar)", "(XChar 255)", "(XString)", `(XString "a \"\\\n\t\x00\x1f\x7f\xff$'")`, "(XTrue)", "(XFalse)", "(XNull)", "(XUnit)")
}

func (m maker) expression(b int) string {
	if b <= 0 {
		return m.pick(m.literal(), "(XThis)", `(XName "`+m.name()+`")`, "(XSuper)", `(XSuper "a")`, "(XBlock)")
	}
	return m.choose(b, m.operation, m.control, m.other, m.selection)
}

func (m maker) operation(b int) string {
	return m.choose(b,
		func(b int) string { return `(XSelect "` + m.name() + `" ` + m.expression(b) + ")" },
		func(b int) string {
			return "(XApply" + m.pick("", " 1") + m.some(1, 3, b, m.expression) + m.some(0, 2, b, func(b int) string { return `(XNamed "` + m.word() + `" ` + m.expression(b) + ")" }) + ")"
		},
		func(b int) string { return "(XTypes " + m.expression(b) + m.some(1, 2, b, m.aType) + ")" },
		func(b int) string { return `(XInfix "` + m.name() + `"` + m.some(2, 2, b, m.expression) + ")" },
		func(b int) string { return `(XPrefix "` + m.pick("-", "!", "~", "+") + `" ` + m.expression(b) + ")" },
		func(b int) string {
			return `(XAssign "` + m.pick("=", "+=", ":=", "<<=", "!==") + `"` + m.some(2, 2, b, m.expression) + ")"
		},
		func(b int) string { return "(XNew" + m.parents(1, b) + m.body(b) + ")" },
		func(b int) string {
			return `(XInterp "s" (XString)` + m.some(0, 2, b, func(b int) string { return m.expression(b) + ` (XString "b")` }) + ")"
		})
}

func (m maker) control(b int) string {
	return m.choose(b,
		func(b int) string { return "(XIf" + m.some(2, 2, b, m.expression) + m.maybe(b, m.expression) + ")" },
		func(b int) string { return "(XWhile" + m.some(2, 2, b, m.expression) + ")" },
		func(b int) string {
			return "(XFor" + m.pick("", " 1") + " " + m.generator(b) + m.some(0, 2, b, m.enumerator) + " " + m.expression(b) + ")"
		},
		func(b int) string { return "(XMatch " + m.expression(b) + m.some(1, 2, b, m.matchCase) + ")" },
		func(b int) string {
			return "(XTry " + m.expression(b) + " (SCases" + m.some(0, 2, b, m.matchCase) + ")" + m.maybe(b, m.expression) + ")"
		},
		func(b int) string { return "(XThrow " + m.expression(b) + ")" },
		func(b int) string { return "(XReturn" + m.maybe(b, m.expression) + ")" })
}

func (m maker) other(b int) string {
	return m.choose(b,
		func(b int) string {
			return "(XLambda" + m.some(0, 2, b, func(b int) string {
				return `(SLambdaParam "` + m.pick("_", m.word()) + `"` + m.maybe(b, m.aType) + ")"
			}) + " " + m.expression(b) + ")"
		},
		func(b int) string { return "(XBlock" + m.some(0, 3, b, m.statement) + ")" },
		func(b int) string { return "(XTyped " + m.expression(b) + " " + m.aType(b) + ")" },
		func(b int) string { return "(" + m.pick("XQuote", "XSplice") + " " + m.expression(b) + ")" })
}

func (m maker) generator(b int) string {
	return "(SGenerator " + m.pattern(b) + " " + m.expression(b) + ")"
}

func (m maker) enumerator(b int) string {
	return m.choose(b,
		m.generator,
		func(b int) string { return "(SBinding " + m.pattern(b) + " " + m.expression(b) + ")" },
		func(b int) string { return "(SGuard " + m.expression(b) + ")" })
}

func (m maker) matchCase(b int) string {
	return "(SCase " + m.pattern(b) + m.maybe(b, m.expression) + " " + m.expression(b) + ")"
}

// onePattern makes a pattern that may be a part of any other one.
func (m maker) onePattern(b int) string {
	if b <= 0 {
		return m.pick("(PWild)", `(PStable "`+m.path()+`")`, "(PLiteral "+m.literal()+")", `(PLiteral (XPrefix "-" (XLong 1)))`, `(PLiteral (XPrefix "-" (XInt)))`)
	}
	return m.choose(b,
		func(b int) string { return `(PTyped "` + m.pick("_", m.word()) + `" ` + m.aType(b) + ")" },
		func(b int) string { return `(PApply "` + m.path() + `"` + m.some(0, 2, b, m.pattern) + ")" })
}

func (m maker) pattern(b int) string {
	return m.choose(b,
		m.onePattern,
		func(b int) string { return `(PBind "` + m.word() + `" ` + m.onePattern(b) + ")" },
		func(b int) string { return "(PAlt" + m.some(2, 3, b, m.onePattern) + ")" })
}

func (m maker) unit(b int) string {
	return "(SUnit" + m.some(0, 4, b, m.definition) + ")"
}
