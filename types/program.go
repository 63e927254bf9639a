package types

import (
	"slices"

	"newel/api"
	"newel/symbols"
)

// program is a program whose types are checked.
type program struct{ api.Program }

// CheckAll returns the first fault of a program and its types.
func CheckAll(p api.Program) symbols.Fault {
	if f := symbols.Check(p); f != (symbols.Fault{}) {
		return f
	}
	all := program{p}
	parts := []struct {
		part, size int
		check      func(index int) api.Errno
	}{
		{symbols.PClass, len(p.Classes), all.parents},
		{symbols.PField, len(p.Fields), all.field},
		{symbols.PTParam, len(p.TParams), all.typeParam},
		{symbols.PTypeMember, len(p.Types), all.typeMember},
		{symbols.PMethod, len(p.Methods), all.method},
	}
	for _, part := range parts {
		for i := range part.size {
			if code := part.check(i); code != api.OK {
				return symbols.Fault{Part: part.part, Index: i, Code: code}
			}
		}
	}
	return symbols.Fault{}
}

// parents returns the error of the parents of a class.
func (p program) parents(class int) api.Errno {
	s := scope{p: p, class: class, method: -1}
	for _, t := range p.Classes[class].Parents {
		if code := Check(api.Env{P: p.Program}, t); code != api.OK {
			return code
		}
		if slices.ContainsFunc(t.Args, isWild) || !s.has(&t) || hasThis(&t, class) {
			return api.ErrInvalid
		}
	}
	return api.OK
}

func isWild(t api.Type) bool {
	return t.Kind == api.TWild
}

// hasThis reports whether this of a class occurs in a type.
func hasThis(t *api.Type, class int) bool {
	for p := range nodes(t) {
		if n := p.node(); n.Kind == api.TThis && n.Sym == class {
			return true
		}
	}
	return false
}

// use is what a type at a place of a program may be.
type use struct {
	locals         []api.Local
	arity          int
	byName, repeat bool
	scope          scope
}

// fault returns the error of a type at a place.
func (p program) fault(t *api.Type, u use) api.Errno {
	env := api.Env{P: p.Program, Locals: u.locals}
	if code := Check(env, *t); code != api.OK {
		return code
	}
	switch {
	case Arity(env, *t) != u.arity:
		return api.ErrArity
	case t.Kind == api.TByName && !u.byName || t.Kind == api.TRepeat && !u.repeat:
		return api.ErrInvalid
	case !u.scope.has(t):
		return api.ErrInvalid
	}
	return api.OK
}

// field returns the error of the type of a field.
func (p program) field(i int) api.Errno {
	f := &p.Fields[i]
	return p.fault(&f.Type, use{scope: scope{p: p, class: f.Owner, method: -1}})
}

// typeParam returns the error of the bounds of a type parameter.
func (p program) typeParam(i int) api.Errno {
	t := &p.TParams[i]
	class := t.Class
	if t.Method != -1 {
		class = p.Methods[t.Method].Owner
	}
	return p.bounds(&t.Lo, &t.Hi, use{arity: t.Arity, scope: scope{p: p, class: class, method: t.Method}})
}

// typeMember returns the error of the bounds of a type member.
func (p program) typeMember(i int) api.Errno {
	t := &p.Types[i]
	return p.bounds(&t.Lo, &t.Hi, use{arity: t.Arity, scope: scope{p: p, class: t.Owner, method: -1}})
}

// bounds returns the error of bounds.
func (p program) bounds(lo, hi *api.Type, u use) api.Errno {
	if code := p.bound(lo, api.TNothing, u); code != api.OK {
		return code
	}
	return p.bound(hi, api.TAny, u)
}

// bound returns the error of a bound. One of a kind, which is proper, is a bound
// of all arities.
func (p program) bound(t *api.Type, kind int, u use) api.Errno {
	if t.Kind == kind {
		u.arity = 0
	}
	return p.fault(t, u)
}

// method returns the error of the types of the locals of a method, and of its
// result.
func (p program) method(i int) api.Errno {
	m := &p.Methods[i]
	signature := use{locals: m.Locals, scope: scope{p: p, class: m.Owner, method: i, locals: m.Params}}
	inside := use{locals: m.Locals, scope: scope{p: p, class: m.Owner, method: i, locals: len(m.Locals), outer: true}}
	repeated := lastParam(m)
	for k := range m.Locals {
		u := inside
		if k < m.Params {
			u = signature
			u.byName, u.repeat = true, k == repeated
		}
		if code := p.fault(&m.Locals[k].Type, u); code != api.OK {
			return code
		}
	}
	return p.fault(&m.Result, signature)
}

// lastParam returns the last parameter without Using, -1 if there is none.
func lastParam(m *api.Method) int {
	for k := m.Params - 1; k >= 0; k-- {
		if m.Locals[k].Flags&api.Using == 0 {
			return k
		}
	}
	return -1
}

// scope is a place of a program, and what types may refer to there: the class,
// the method (-1: none), the number of the locals of the method, and whether
// this and the type parameters of classes around the class belong to it.
type scope struct {
	p             program
	class, method int
	locals        int
	outer         bool
}

// has reports whether everything that a type refers to is in scope.
func (s *scope) has(t *api.Type) bool {
	for p := range nodes(t) {
		if !s.hasNode(p.node()) {
			return false
		}
	}
	return true
}

func (s *scope) hasNode(t *api.Type) bool {
	switch t.Kind {
	case api.TParam:
		of := &s.p.TParams[t.Sym]
		if of.Method != -1 {
			return of.Method == s.method
		}
		return of.Class == s.class || s.outer && s.isAround(of.Class)
	case api.TThis:
		return t.Sym == s.class || s.isAround(t.Sym) && (s.outer || s.p.Classes[t.Sym].Kind == api.IsObject)
	case api.TLocal:
		return t.Sym < s.locals
	}
	return t.Kind != api.TVar
}

// isAround reports whether a class is around the class of a scope.
func (s *scope) isAround(class int) bool {
	return symbols.Inside(s.p.Program, s.class, class)
}
