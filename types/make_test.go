package types_test

import (
	"math/rand"

	"newel/api"
)

// rawType returns a random type of any kinds, with any fields.
func rawType(r *rand.Rand, depth int) api.Type {
	t := api.Type{Kind: r.Intn(api.TKinds+2) - 1}
	if r.Intn(2) == 0 {
		t.Sym = r.Intn(4) - 1
	}
	if r.Intn(4) == 0 {
		t.Name = []string{"a", "b", "+"}[r.Intn(3)]
	}
	if r.Intn(2) == 0 {
		t.Num = r.Intn(4) - 1
	}
	if depth > 0 {
		for range r.Intn(4) {
			t.Args = append(t.Args, rawType(r, depth-1))
		}
	}
	return t
}

// changed returns a type with a random change of a random node.
func changed(r *rand.Rand, t api.Type) api.Type {
	out := clone(t)
	n := &out
	for len(n.Args) > 0 && r.Intn(4) > 0 {
		n = &n.Args[r.Intn(len(n.Args))]
	}
	switch r.Intn(8) {
	case 0:
		n.Kind = r.Intn(api.TKinds+2) - 1
	case 1:
		n.Sym += r.Intn(3) - 1
	case 2:
		n.Name = []string{"", "a", "b"}[r.Intn(3)]
	case 3:
		n.Num += r.Intn(3) - 1
	case 4:
		n.Args = append(clone(*n).Args, rawType(r, 1))
	case 5:
		if len(n.Args) > 0 {
			n.Args = n.Args[:len(n.Args)-1]
		}
	case 6:
		*n = rawType(r, 2)
	}
	return out
}

// scene is what random types may refer to.
type scene struct {
	r       *rand.Rand
	env     api.Env
	tparams []int
	this    []int
	locals  []int // stable ones
	fields  []int // stable ones
	vars    bool
}

// everything returns the scene of all that a program and its locals have.
func everything(r *rand.Rand, env api.Env) *scene {
	s := scene{r: r, env: env, vars: true}
	for i := range env.P.TParams {
		s.tparams = append(s.tparams, i)
	}
	for i := range env.P.Classes {
		s.this = append(s.this, i)
	}
	for i, l := range env.Locals {
		if l.Flags&(api.Var|api.Lazy) == 0 {
			s.locals = append(s.locals, i)
		}
	}
	s.fields = stableFields(env.P)
	return &s
}

func stableFields(p api.Program) []int {
	var l []int
	for i, f := range p.Fields {
		if f.Flags&(api.Var|api.Lazy) == 0 {
			l = append(l, i)
		}
	}
	return l
}

func (s *scene) pick(l []int) int { return l[s.r.Intn(len(l))] }

// proper returns a random type without arguments that are missing; binders are
// the numbers of the variables of the binders around it, the innermost one last.
func (s *scene) proper(depth int, binders []int) api.Type {
	if depth <= 0 || s.r.Intn(6) == 0 {
		return s.leaf(binders)
	}
	inner := func() api.Type { return s.proper(depth-1, binders) }
	list := func(n int) (l []api.Type) {
		for range n {
			l = append(l, inner())
		}
		return l
	}
	switch s.r.Intn(11) {
	case 0, 1:
		return s.class(depth, binders)
	case 2, 3:
		return and(list(2 + s.r.Intn(3))...)
	case 4, 5:
		return or(list(2 + s.r.Intn(3))...)
	case 6:
		return s.function(list(1 + s.r.Intn(3)))
	case 7:
		return array(inner())
	case 8:
		n := 1 + s.r.Intn(2)
		return apply(s.functionType(n, depth-1, binders), list(n)...)
	case 9:
		n := s.r.Intn(3)
		t := match(n, inner())
		for range 1 + s.r.Intn(2) {
			in := append(append([]int(nil), binders...), n)
			t.Args = append(t.Args, s.proper(depth-1, in), s.proper(depth-1, in))
		}
		return t
	}
	return refine(tricky(s.r), list(3)...)
}

// tricky returns a name that looks like a part of a text of a type.
func tricky(r *rand.Rand) string {
	l := []string{"A", "b", "x1", "with", "match", "_", "$", "+", "=>", "&", "|", "*", "?", ":", "<:", ">:", "??", "?>", "^", "Z9", "Ints", "thisA"}
	return l[r.Intn(len(l))]
}

// function makes some of the parameters of a function by-name, or the last one
// repeated.
func (s *scene) function(l []api.Type) api.Type {
	for i := range len(l) - 1 {
		if s.r.Intn(5) == 0 {
			l[i] = byName(l[i])
		} else if i == len(l)-2 && s.r.Intn(4) == 0 {
			l[i] = repeat(l[i])
		}
	}
	return fun(l...)
}

// class returns a class with arguments.
func (s *scene) class(depth int, binders []int) api.Type {
	if len(s.env.P.Classes) == 0 {
		return text
	}
	t := class(s.r.Intn(len(s.env.P.Classes)))
	for _, k := range s.env.P.Classes[t.Sym].TParams {
		if s.r.Intn(4) == 0 {
			t.Args = append(t.Args, wild(s.proper(depth-1, binders), s.proper(depth-1, binders)))
		} else {
			t.Args = append(t.Args, s.of(s.env.P.TParams[k].Arity, depth-1, binders))
		}
	}
	return t
}

// of returns a type with an arity.
func (s *scene) of(arity, depth int, binders []int) api.Type {
	if arity == 0 {
		return s.proper(depth, binders)
	}
	return s.functionType(arity, depth, binders)
}

// functionType returns a type function.
func (s *scene) functionType(arity, depth int, binders []int) api.Type {
	var l []api.Type
	for _, k := range s.tparams {
		if s.env.P.TParams[k].Arity == arity {
			l = append(l, param(k))
		}
	}
	for k, m := range s.env.P.Types {
		if prefix, ok := s.singleton(); ok && m.Arity == arity {
			l = append(l, member(prefix, k))
		}
	}
	if len(l) > 0 && s.r.Intn(3) > 0 {
		return l[s.r.Intn(len(l))]
	}
	return lambda(arity, s.proper(depth-1, append(append([]int(nil), binders...), arity)))
}

// singleton returns a singleton type, if there is one.
func (s *scene) singleton() (api.Type, bool) {
	var t api.Type
	switch {
	case len(s.locals) > 0 && (len(s.this) == 0 || s.r.Intn(2) == 0):
		t = local(s.pick(s.locals))
	case len(s.this) > 0:
		t = this(s.pick(s.this))
	default:
		return api.Type{}, false
	}
	for len(s.fields) > 0 && s.r.Intn(3) == 0 {
		t = field(t, s.pick(s.fields))
	}
	return t, true
}

// leaf returns a proper type that needs no other types.
func (s *scene) leaf(binders []int) api.Type {
	switch s.r.Intn(7) {
	case 0, 1:
		if k := s.r.Intn(len(binders) + 1); k > 0 && binders[len(binders)-k] > 0 {
			return bound(s.r.Intn(binders[len(binders)-k]), k-1)
		}
	case 2:
		for _, k := range s.r.Perm(len(s.tparams)) {
			if s.env.P.TParams[s.tparams[k]].Arity == 0 {
				return param(s.tparams[k])
			}
		}
	case 3:
		if t, ok := s.singleton(); ok {
			return t
		}
	case 4:
		prefix, ok := s.singleton()
		for k, m := range s.env.P.Types {
			if ok && m.Arity == 0 && s.r.Intn(2) == 0 {
				return member(prefix, k)
			}
		}
	case 5:
		for _, k := range s.r.Perm(len(s.env.P.Classes)) {
			if len(s.env.P.Classes[k].TParams) == 0 {
				return class(k)
			}
		}
		if s.vars {
			return variable(s.r.Intn(4))
		}
	}
	return of(api.TAny + s.r.Intn(api.TString))
}
