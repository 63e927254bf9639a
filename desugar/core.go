package desugar

import "newel/syntax"

// isCore reports whether a node of a right tree, with its kids, keeps the
// rules of core trees. By the form of right trees, definitions stand in units,
// bodies, extensions and blocks alone.
func isCore(n *syntax.Node) bool {
	switch n.Kind {
	case syntax.SExtension, syntax.SEnumCase, syntax.XInfix, syntax.XPrefix, syntax.XInterp,
		syntax.XFor, syntax.SGenerator, syntax.SBinding, syntax.SGuard:
		return false
	case syntax.SClass:
		return n.Num != enumClass
	case syntax.XAssign:
		return n.Text == "=" && isAssignable(&n.Kids[0])
	case syntax.XIf:
		return n.Kids[2].Kind != syntax.SNone
	case syntax.XReturn:
		return n.Kids[0].Kind != syntax.SNone
	case syntax.XBlock:
		return misplaced(n) < 0 && hasResult(n)
	case syntax.SLambdaParam:
		return n.Text != "_"
	case syntax.SLists:
		return outOfOrder(n) < 0
	}
	return true
}

// isAssignable reports whether an expression can stand on the left of = in a
// core tree. An operation or a loop cannot: it would become an application, to
// which an assignment is another abbreviation.
func isAssignable(n *syntax.Node) bool {
	return n.Kind == syntax.XName || n.Kind == syntax.XSelect
}

// misplaced returns the index of the first kid of a block that is a definition
// which cannot stand there, or -1.
func misplaced(n *syntax.Node) int {
	for i := range n.Kids {
		if !inBlock(&n.Kids[i]) {
			return i
		}
	}
	return -1
}

// inBlock reports whether a statement is an expression, a value or an import.
func inBlock(n *syntax.Node) bool {
	if n.Kind == syntax.SVal {
		return n.Kids[2].Kind != syntax.SNone
	}
	return n.Kind == syntax.SImport || isExpr(n.Kind)
}

// hasResult reports whether the last kid of a block is an expression.
func hasResult(n *syntax.Node) bool {
	return len(n.Kids) > 0 && isExpr(n.Kids[len(n.Kids)-1].Kind)
}

// outOfOrder returns the index of the first parameter list that is no using
// list and stands behind one, or -1.
func outOfOrder(n *syntax.Node) int {
	for i := 1; i < len(n.Kids); i++ {
		if n.Kids[i-1].Num == usingList && n.Kids[i].Num != usingList {
			return i
		}
	}
	return -1
}
