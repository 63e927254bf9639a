package types

import "newel/api"

// builder makes types, in new memory, out of the nodes of others, and counts
// the nodes. It stops when there are too many: the types are refused then.
type builder struct{ size int }

// change changes a node inside of some binders, and reports whether the Args
// that it has then are done, too.
type change func(t *api.Type, inside int) bool

// build returns a type with changed nodes.
func (b *builder) build(t api.Type, inside int, c change) api.Type {
	if c(&t, inside) {
		return t
	}
	b.size++
	if b.size > MaxSize {
		return api.Type{}
	}
	args := t.Args
	t.Args = nil
	for i := range args {
		k := inside
		if binds(&t, i) {
			k++
		}
		t.Args = append(t.Args, b.build(args[i], k, c))
	}
	return t
}

// shift is the change of a type that is put inside of more binders: what is
// free in it keeps its binder.
func shift(by int) change {
	return func(t *api.Type, inside int) bool {
		if t.Kind == api.TBound && t.Sym >= inside {
			t.Sym += by
		}
		return false
	}
}

// copied returns a type in new memory.
func copied(t api.Type) api.Type {
	var b builder
	return b.build(t, 0, shift(0))
}

// substitution puts arguments in place of nodes, which it knows by numbers.
type substitution struct {
	builder
	args map[int]api.Type
}

// replace puts the argument with a number, if there is one, in place of a node.
func (s *substitution) replace(t *api.Type, number, inside int) bool {
	arg, isKnown := s.args[number]
	if isKnown {
		*t = s.build(arg, 0, shift(inside))
	}
	return isKnown
}

// param is the change of a type parameter.
func (s *substitution) param(t *api.Type, inside int) bool {
	return t.Kind == api.TParam && s.replace(t, t.Sym, inside)
}

// variable is the change of what stands in a binder that is taken away.
func (s *substitution) variable(t *api.Type, inside int) bool {
	if t.Kind != api.TBound || t.Sym < inside {
		return false
	}
	if t.Sym == inside {
		return s.replace(t, t.Num, inside)
	}
	t.Sym--
	return false
}

// result returns a type with changed nodes, if it keeps the limits.
func (s *substitution) result(t api.Type, c change) (api.Type, api.Errno) {
	out := s.build(t, 0, c)
	if s.size > MaxSize {
		return api.Type{}, api.ErrLimit
	}
	if e := limits(&out); e != api.OK {
		return api.Type{}, e
	}
	return out, api.OK
}

// allLimits returns the first limit that a type, or one of others, exceeds.
func allLimits(t *api.Type, others []api.Type) api.Errno {
	if e := limits(t); e != api.OK {
		return e
	}
	for i := range others {
		if e := limits(&others[i]); e != api.OK {
			return e
		}
	}
	return api.OK
}

// Subst returns a type with arguments in place of type parameters.
func Subst(t api.Type, params []int, args []api.Type) (api.Type, api.Errno) {
	if e := allLimits(&t, args); e != api.OK {
		return api.Type{}, e
	}
	if len(params) != len(args) {
		return api.Type{}, api.ErrArity
	}
	s := substitution{args: map[int]api.Type{}}
	for i, param := range params {
		s.args[param] = args[i]
	}
	if len(s.args) < len(params) {
		return api.Type{}, api.ErrTwice
	}
	return s.result(t, s.param)
}

// Open returns the body of a TLambda with arguments in place of its variables.
func Open(t api.Type, args []api.Type) (api.Type, api.Errno) {
	if e := allLimits(&t, args); e != api.OK {
		return api.Type{}, e
	}
	if t.Kind != api.TLambda || len(t.Args) != 1 {
		return api.Type{}, api.ErrKind
	}
	if len(args) != t.Num {
		return api.Type{}, api.ErrArity
	}
	return opened(t.Args[0], args)
}

// OpenCase returns the pattern and the body of a case of a TMatch with arguments
// in place of its variables.
func OpenCase(t api.Type, k int, args []api.Type) (pattern, body api.Type, e api.Errno) {
	if e := allLimits(&t, args); e != api.OK {
		return api.Type{}, api.Type{}, e
	}
	switch {
	case t.Kind != api.TMatch:
		return api.Type{}, api.Type{}, api.ErrKind
	case !isIndex(k, (len(t.Args)-1)/2):
		return api.Type{}, api.Type{}, api.ErrRange
	case len(args) != t.Num:
		return api.Type{}, api.Type{}, api.ErrArity
	}
	pattern, e = opened(t.Args[2*k+1], args)
	if e == api.OK {
		body, e = opened(t.Args[2*k+2], args)
	}
	if e != api.OK {
		return api.Type{}, api.Type{}, e
	}
	return pattern, body, api.OK
}

// opened returns what stands in a binder, which is taken away, with arguments in
// place of its variables.
func opened(t api.Type, args []api.Type) (api.Type, api.Errno) {
	s := substitution{args: map[int]api.Type{}}
	for i, arg := range args {
		s.args[i] = arg
	}
	return s.result(t, s.variable)
}
