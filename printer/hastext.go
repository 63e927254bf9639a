package printer

import (
	"strings"

	"newel/api"
	"newel/syntax"
	"newel/tokens"
)

// hasText reports whether a text has a right tree, as far as one can see from
// each node and its kids. Some kinds stand in a few places alone: also is the
// one of them that may stand here.
func hasText(n *syntax.Node, also int) bool {
	switch n.Kind {
	case syntax.SEnumCase, syntax.XSuper, syntax.TWild:
		if n.Kind != also {
			return false
		}
	}
	if !hasTokens(n) || !hasForm(n) {
		return false
	}
	for i := range n.Kids {
		if !hasText(&n.Kids[i], permitted(n, i, also)) {
			return false
		}
	}
	return true
}

// permitted returns the kind that stands in a few places alone that may be
// that of a kid.
func permitted(n *syntax.Node, i, also int) int {
	switch {
	case n.Kind == syntax.SClass && n.Num == enumClass && i == 4:
		return syntax.SEnumCase
	case n.Kind == syntax.SBody:
		return also // that of the class
	case n.Kind == syntax.XSelect:
		return syntax.XSuper
	case n.Kind == syntax.TApply && i > 0:
		return syntax.TWild
	}
	return syntax.SNone
}

// hasTokens reports whether the Text of a node can be written by the tokens
// that must stand there: a name of the tree may be a keyword, or an operator
// where none can be read.
func hasTokens(n *syntax.Node) bool {
	switch n.Kind {
	case syntax.SClass, syntax.SVal, syntax.SType, syntax.SEnumCase, syntax.STParam, syntax.SParam,
		syntax.TName, syntax.TSelect, syntax.XName, syntax.XNamed, syntax.XInterp, syntax.PBind:
		return isToken(n.Text, tokens.Name)
	case syntax.SDef, syntax.XSelect:
		return isToken(n.Text, tokens.Name) || isToken(n.Text, tokens.Op)
	case syntax.SGiven, syntax.XSuper:
		return n.Text == "" || isToken(n.Text, tokens.Name)
	case syntax.SLambdaParam, syntax.PTyped:
		return n.Text == "_" || isToken(n.Text, tokens.Name)
	case syntax.XInfix:
		return isToken(n.Text, tokens.Op) && !tokens.Assigns(n.Text)
	case syntax.XAssign:
		return n.Text == "=" || isToken(n.Text, tokens.Op)
	case syntax.SImport:
		return isPath(strings.TrimSuffix(n.Text, ".*"))
	case syntax.PStable, syntax.PApply:
		return isPath(n.Text)
	}
	return true
}

// isToken reports whether a text is one token of a kind.
func isToken(text string, kind int) bool {
	list, f := tokens.Raw(text)
	return f.Code == api.OK && len(list) == 1 && list[0].Kind == kind && list[0].Text == text
}

// isPath reports whether a text is names with points between them.
func isPath(text string) bool {
	for _, name := range strings.Split(text, ".") {
		if !isToken(name, tokens.Name) {
			return false
		}
	}
	return true
}

// hasForm reports whether a rule of the grammar makes a node with such kids.
func hasForm(n *syntax.Node) bool {
	switch n.Kind {
	case syntax.SClass:
		isObject := n.Num == plainObject || n.Num == caseObject
		return !(isObject && hasParams(n)) && !(n.Num == enumClass && n.Kids[4].Kind == syntax.SNone)
	case syntax.SGiven:
		return n.Text != "" || !hasParams(n)
	case syntax.SDef:
		return n.Num == 0
	case syntax.SParent:
		return n.Num == 1 || len(n.Kids) == 1
	case syntax.TSelect, syntax.TSingle:
		return isTypePath(&n.Kids[0])
	case syntax.TLambda:
		return len(n.Kids[0].Kids) > 0
	case syntax.XQuote, syntax.XSplice:
		return n.Kids[0].Kind == syntax.XBlock
	case syntax.PStable:
		return strings.Contains(n.Text, ".") || !isVariable(n.Text)
	}
	return true
}

// hasParams reports whether a definition has type parameters or parameters.
func hasParams(n *syntax.Node) bool {
	return len(n.Kids[1].Kids) > 0 || len(n.Kids[2].Kids) > 0
}

// isTypePath reports whether a path has no operators among its names: in a
// type none can be read.
func isTypePath(n *syntax.Node) bool {
	for n.Kind == syntax.XSelect {
		if !isToken(n.Text, tokens.Name) {
			return false
		}
		n = &n.Kids[0]
	}
	return true
}
