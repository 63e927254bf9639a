package printer

import "newel/syntax"

// rule is a method that writes the nodes of a kind.
type rule func(*writer, *syntax.Node)

// rules returns the rules of the kinds.
func rules() map[int]rule {
	return map[int]rule{
		syntax.SUnit: (*writer).unit, syntax.SImport: (*writer).imports,
		syntax.SClass: (*writer).class, syntax.SEnumCase: (*writer).enumCase,
		syntax.SDef: (*writer).def, syntax.SVal: (*writer).val,
		syntax.SType: (*writer).typeDefinition, syntax.SGiven: (*writer).given,
		syntax.SExtension: (*writer).extension, syntax.SMods: (*writer).mods,
		syntax.SNames: (*writer).typeParams, syntax.STParam: (*writer).typeParam,
		syntax.SLists: (*writer).lists, syntax.SParams: (*writer).params, syntax.SParam: (*writer).param,
		syntax.SParents: (*writer).parents, syntax.SParent: (*writer).parent,

		syntax.TName: (*writer).name, syntax.TSelect: (*writer).selection,
		syntax.TApply: (*writer).typeArguments, syntax.TFunction: (*writer).functionType,
		syntax.TAnd: (*writer).intersection, syntax.TOr: (*writer).union,
		syntax.TSingle: (*writer).singleton, syntax.TWild: (*writer).wildcard,
		syntax.TLambda: (*writer).typeLambda, syntax.TMatch: (*writer).match, syntax.TCase: (*writer).typeCase,

		syntax.XName: (*writer).name, syntax.XSelect: (*writer).selection,
		syntax.XApply: (*writer).application, syntax.XNamed: (*writer).namedArgument,
		syntax.XTypes: (*writer).typeArguments, syntax.XInfix: (*writer).infix,
		syntax.XPrefix: (*writer).prefix, syntax.XAssign: (*writer).assignment,
		syntax.XInt: (*writer).number, syntax.XLong: (*writer).number,
		syntax.XChar: (*writer).char, syntax.XString: (*writer).str,
		syntax.XTrue: (*writer).keyword, syntax.XFalse: (*writer).keyword, syntax.XNull: (*writer).keyword,
		syntax.XUnit: (*writer).keyword, syntax.XThis: (*writer).keyword,
		syntax.XSuper: (*writer).super, syntax.XInterp: (*writer).interpolated,
		syntax.XIf: (*writer).ifElse, syntax.XWhile: (*writer).while, syntax.XFor: (*writer).loop,
		syntax.SGenerator: (*writer).generator, syntax.SBinding: (*writer).binding, syntax.SGuard: (*writer).guard,
		syntax.XMatch: (*writer).match, syntax.SCase: (*writer).matchCase, syntax.XTry: (*writer).try,
		syntax.XThrow: (*writer).throw, syntax.XReturn: (*writer).returned,
		syntax.XLambda: (*writer).lambda, syntax.SLambdaParam: (*writer).lambdaParam,
		syntax.XBlock: (*writer).statements, syntax.XNew: (*writer).newObject, syntax.XTyped: (*writer).typed,
		syntax.XQuote: (*writer).quote, syntax.XSplice: (*writer).splice,

		syntax.PWild: (*writer).wildPattern, syntax.PBind: (*writer).bind, syntax.PTyped: (*writer).typedPattern,
		syntax.PLiteral: (*writer).literalPattern, syntax.PStable: (*writer).name,
		syntax.PApply: (*writer).partsPattern, syntax.PAlt: (*writer).alternatives,
	}
}

// Ranks say where a node can stand without parentheses.
const (
	rankWhole  = iota // alone, or in brackets: what has no end of its own
	rankJoined        // where a match or a union can stand
	rankInfix         // as an operand, if the precedence of its operator permits it
	rankPrefix        // as an operand
	rankSimple        // where something is selected from it, or applied to it
)

func rank(n *syntax.Node) int {
	switch n.Kind {
	case syntax.XIf, syntax.XWhile, syntax.XFor, syntax.XTry, syntax.XThrow, syntax.XReturn, syntax.XLambda, syntax.XAssign,
		syntax.TFunction, syntax.TLambda, syntax.TMatch, syntax.PAlt:
		return rankWhole
	case syntax.XMatch, syntax.TOr:
		return rankJoined
	case syntax.XInfix, syntax.TAnd:
		return rankInfix
	case syntax.XPrefix, syntax.XNew:
		return rankPrefix
	case syntax.PTyped:
		return rankJoined // an | behind it would belong to its type
	case syntax.PBind:
		if n.Kids[0].Kind == syntax.PTyped {
			return rankJoined
		}
	}
	return rankSimple
}
