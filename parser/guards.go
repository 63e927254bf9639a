package parser

import "newel/syntax"

// An => in the guard of a case ends the guard, or is that of a lambda in the
// guard; which one it is may show much later. So this is a choice, the end of
// the guard being tried first.

// noGuard is the level of the guard where no => can end one.
const noGuard = -1

// inGuard reports whether the token at hand stands in a guard, outside of
// brackets in it, so that an => may end the guard.
func (r *reader) inGuard() bool {
	return r.level[r.next] == r.guardLevel
}

// endsGuard reports whether a token is an => that is chosen to end the guard.
func (r *reader) endsGuard(index int) bool {
	return r.isAt(index, "=>") && r.level[index] == r.guardLevel && r.choose(2) == 0
}

// withinGuard reads by a rule behind which something must stand that belongs
// to the same guard, so that no => in it ends the guard.
func withinGuard[T any](r *reader, rule func() T) T {
	outer := r.guardLevel
	r.guardLevel = noGuard
	x := rule()
	r.guardLevel = outer
	return x
}

// guard reads a guard up to the => that ends it.
func (r *reader) guard() syntax.Node {
	outer := r.guardLevel
	r.guardLevel = r.level[r.next]
	n := r.expr()
	r.guardLevel = outer
	if !r.is("=>") {
		panic(r.stuck())
	}
	return n
}

// guardPlace is what the ways to read a case from its guard on depend on.
type guardPlace struct {
	next, depth int
	inGuard     bool
}

// guardedCase reads a case from its guard on. The ways to do so are kept, for
// the rules around may be read several times: otherwise cases in cases would
// take time that grows with each one by a factor.
func (r *reader) guardedCase(at int, pattern syntax.Node, inList bool) syntax.Node {
	here := guardPlace{r.next, r.depth, r.inGuard()}
	list, isKnown := r.known[here]
	if !isKnown {
		list = r.guardedWays(at, pattern, inList)
		r.known[here] = list
	}
	if len(list) == 0 {
		panic(r.stuck())
	}
	x := list[r.choose(len(list))]
	r.next = x.next
	return x.node
}

// guardedWays returns the ways to read a case from its guard on. In a list,
// where all of them end in front of the same case, or of the list's end, one
// is enough.
func (r *reader) guardedWays(at int, pattern syntax.Node, inList bool) []way {
	tooDeepAt := r.tooDeepAt
	var list []way
	for x := range r.ways(func() syntax.Node { return r.guardAndBody(at, pattern, inList) }) {
		list = append(list, x)
		if inList {
			break
		}
	}
	if len(list) > 0 {
		r.tooDeepAt = tooDeepAt // it does not matter that other ways are nested too deeply
	}
	return list
}

func (r *reader) guardAndBody(at int, pattern syntax.Node, inList bool) syntax.Node {
	guard := r.guard()
	body := r.bodyBehindArrow()
	r.endCase(inList)
	return tree(syntax.SCase, at, pattern, guard, body)
}

// endCase checks that a case may end here: in a list, if the next case or the
// list's end follows, otherwise if no => does, or one that may end a guard
// around the case.
func (r *reader) endCase(inList bool) {
	behind := r.next
	ends := !r.is("=>") || r.inGuard()
	if inList {
		behind = r.behindLines()
		ends = r.isAt(behind, "case") || r.isClose(behind)
	}
	if !ends {
		r.giveUp(behind)
		panic(r.stuck())
	}
}
