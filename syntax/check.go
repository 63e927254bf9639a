package syntax

import (
	"newel/api"
	"newel/tokens"
)

const (
	maxInt   = 1<<31 - 1
	maxChar  = 255
	maxLists = 4

	modifiers = api.Abstract | api.Final | api.Sealed | api.Private | api.Override | api.Volatile | api.Inline

	paramKind = 3 // the bits of the Num of an SParam for plain, by name and repeated
	paramVal  = 4 // a parameter that is a val
	paramVar  = 8 // a parameter that is a var
)

// wrong returns the error of a node for itself.
func wrong(n *Node) api.Errno {
	if n.Kind < 0 || n.Kind >= Kinds {
		return api.ErrKind
	}
	text, num := wrongText(n), wrongNum(n)
	switch {
	case text == api.ErrName:
		return text
	case num == api.ErrRange:
		return num
	case text != api.OK:
		return text
	case num != api.OK:
		return num
	case !fits(n.Kids, kindForm(n.Kind)) || !keepsRules(n):
		return api.ErrForm
	}
	return api.OK
}

// wrongText returns ErrName for a Text that is not the name or path that it
// must be, or ErrInvalid for another one that is not permitted.
func wrongText(n *Node) api.Errno {
	switch n.Kind {
	case SClass, SDef, XName, XSelect, XInfix:
		return unless(isWord(n.Text) || isOperator(n.Text), api.ErrName)
	case SVal, SType, SEnumCase, STParam, SParam, TName, TSelect, XNamed, XInterp, PBind:
		return unless(isWord(n.Text), api.ErrName)
	case SGiven, XSuper:
		return unless(isWord(n.Text) || n.Text == "", api.ErrName)
	case SLambdaParam, PTyped:
		return unless(isWord(n.Text) || n.Text == "_", api.ErrName)
	case SImport:
		return unless(isImport(n.Text), api.ErrName)
	case PStable, PApply:
		return unless(isPath(n.Text), api.ErrName)
	case XPrefix:
		return unless(n.Text == "-" || n.Text == "!" || n.Text == "~" || n.Text == "+", api.ErrInvalid)
	case XAssign:
		return unless(n.Text == "=" || isOperator(n.Text) && tokens.Assigns(n.Text), api.ErrInvalid)
	case XString:
		return api.OK
	}
	return unless(n.Text == "", api.ErrInvalid)
}

// wrongNum returns ErrRange for a Num out of its range, or ErrInvalid for one
// that must be 0.
func wrongNum(n *Node) api.Errno {
	switch n.Kind {
	case SClass:
		return unless(n.Num >= 0 && n.Num <= 5, api.ErrRange)
	case SVal:
		return unless(n.Num >= 0 && n.Num <= 2, api.ErrRange)
	case SDef, SParams, SParent, XApply, XFor:
		return unless(n.Num == 0 || n.Num == 1, api.ErrRange)
	case SMods:
		return unless(n.Num&^modifiers == 0, api.ErrRange)
	case STParam:
		return unless(n.Num == api.Invariant || n.Num == api.Covariant || n.Num == api.Contravariant, api.ErrRange)
	case SParam:
		return unless(isParamNum(n.Num), api.ErrRange)
	case XInt:
		return unless(n.Num >= 0 && n.Num <= maxInt, api.ErrRange)
	case XLong:
		return unless(n.Num >= 0, api.ErrRange)
	case XChar:
		return unless(n.Num >= 0 && n.Num <= maxChar, api.ErrRange)
	}
	return unless(n.Num == 0, api.ErrInvalid)
}

// unless returns a code if something is not right.
func unless(right bool, code api.Errno) api.Errno {
	if right {
		return api.OK
	}
	return code
}

// isParamNum reports whether a number is plain, by name or repeated, and no
// more than one of val and var.
func isParamNum(num int64) bool {
	if num < 0 || num >= paramVal+paramVar {
		return false
	}
	return num&paramKind != paramKind
}

// keepsRules reports whether a node whose kids have their form keeps the
// further rules of right trees.
func keepsRules(n *Node) bool {
	switch n.Kind {
	case SType:
		return n.Kids[4].Kind == SNone || n.Kids[2].Kind == SNone && n.Kids[3].Kind == SNone
	case SLists:
		return len(n.Kids) <= maxLists
	case SExtension:
		return plainDefs(n.Kids[2:])
	case TSelect, TSingle:
		return isSelection(&n.Kids[0])
	case XApply:
		return namedLast(n.Kids)
	case XString:
		return len(n.Text) <= api.MaxText
	case XNew:
		return len(n.Kids[0].Kids) > 0
	case PLiteral:
		return n.Kids[0].Kind != XPrefix || isNegative(&n.Kids[0])
	case PBind, PAlt:
		return !hasKid(n, n.Kind)
	}
	return true
}

// plainDefs reports whether no definition is an extension method by itself.
func plainDefs(defs []Node) bool {
	for _, d := range defs {
		if d.Num != 0 {
			return false
		}
	}
	return true
}

// isSelection reports whether an expression is a name, this, or a selection of
// these.
func isSelection(n *Node) bool {
	for n.Kind == XSelect && len(n.Kids) == 1 {
		n = &n.Kids[0]
	}
	return n.Kind == XName || n.Kind == XThis
}

// namedLast reports whether no other argument stands behind a named one.
func namedLast(l []Node) bool {
	for i := 1; i < len(l); i++ {
		if l[i-1].Kind == XNamed && l[i].Kind != XNamed {
			return false
		}
	}
	return true
}

// isNegative reports whether an XPrefix is a number behind a minus.
func isNegative(n *Node) bool {
	return n.Text == "-" && len(n.Kids) == 1 && (n.Kids[0].Kind == XInt || n.Kids[0].Kind == XLong)
}

// hasKid reports whether a node has a kid of a kind.
func hasKid(n *Node, kind int) bool {
	for _, k := range n.Kids {
		if k.Kind == kind {
			return true
		}
	}
	return false
}
