package parser

import "newel/syntax"

// cases reads the cases behind catch: a block of them, or a single one.
func (r *reader) cases() syntax.Node {
	n := r.empty(syntax.SCases)
	if r.isOpen() {
		n.Kids = r.caseList()
	} else {
		n.Kids = append(n.Kids, r.oneCase(false))
	}
	return n
}

// caseList reads one or more cases from the token that opens a block to the
// one that closes it. Line ends may stand between them.
func (r *reader) caseList() []syntax.Node {
	made := r.choices.made
	r.take()
	r.skipLines()
	var list []syntax.Node
	for len(list) == 0 || !r.isClose(r.next) {
		list = append(list, r.oneCase(true))
		r.skipLines()
	}
	r.take()
	r.choices.settle(made)
	return list
}

// oneCase reads a case, which stands in a list of them, or alone.
func (r *reader) oneCase(inList bool) syntax.Node {
	at := r.here()
	r.expect("case")
	pattern := r.pattern()
	if r.accept("if") {
		return r.guardedCase(at, pattern, inList)
	}
	guard := r.none()
	return tree(syntax.SCase, at, pattern, guard, r.bodyBehindArrow())
}

func (r *reader) bodyBehindArrow() syntax.Node {
	r.expect("=>")
	return r.caseBody()
}

// caseBody reads the body of a case: a block that is all of it, or statements.
func (r *reader) caseBody() syntax.Node {
	if r.isOpen() && r.endsBody(r.partner[r.next]+1) {
		return r.block()
	}
	n := r.empty(syntax.XBlock)
	n.Kids = r.caseStatements()
	if len(n.Kids) == 1 && !isDefinition(n.Kids[0]) {
		return n.Kids[0]
	}
	if len(n.Kids) > 0 {
		n.At = n.Kids[0].At
	}
	return n
}

// endsBody reports whether the body of a case has ended in front of a token.
func (r *reader) endsBody(index int) bool {
	return r.isAt(index, "case") || r.isLineEnd(index) || r.isClose(index)
}

// caseStatements reads statements up to a case, a close, or line ends behind
// which no statement begins.
func (r *reader) caseStatements() []syntax.Node {
	var list []syntax.Node
	for i := r.next; r.beginsStatement(i); i = r.behindLines() {
		r.next = i
		list = append(list, r.statement())
		if !r.isLineEnd(r.next) {
			break
		}
	}
	return list
}

// beginsStatement reports whether a token is the first one of a statement in a
// case, where the keyword case begins the next one.
func (r *reader) beginsStatement(index int) bool {
	if r.isAt(index, "case") {
		return false
	}
	return r.beginsDefinition(index) || r.beginsExpr(index)
}

func isDefinition(n syntax.Node) bool {
	return n.Kind <= syntax.SEnumCase
}
