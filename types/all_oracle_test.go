package types_test

import (
	"newel/api"
	"newel/symbols"
)

// The oracle of CheckAll writes down all types of a program with what each may
// be, and looks for the first wrong one.

// item is a type at a place of a program.
type item struct {
	fault  symbols.Fault
	t      *api.Type
	locals []api.Local
	arity  int // -1: any
	parent bool
	byName bool
	repeat bool
	class  int // -1: none
	method int // -1: none
	params int // the locals of this number are in scope
	outer  bool
}

func faultOf(p api.Program) symbols.Fault {
	if f := symbols.Check(p); f.Code != api.OK {
		return f
	}
	for _, it := range itemsOf(&p) {
		if it.fault.Code = it.error(&p); it.fault.Code != api.OK {
			return it.fault
		}
	}
	return symbols.Fault{}
}

func itemsOf(p *api.Program) []item {
	var l []item
	for i, c := range p.Classes {
		for k := range c.Parents {
			l = append(l, item{fault: symbols.Fault{Part: symbols.PClass, Index: i}, t: &c.Parents[k], arity: -1, parent: true, class: i, method: -1})
		}
	}
	for i := range p.Fields {
		l = append(l, item{fault: symbols.Fault{Part: symbols.PField, Index: i}, t: &p.Fields[i].Type, class: p.Fields[i].Owner, method: -1})
	}
	for i := range p.TParams {
		b := &p.TParams[i]
		it := item{fault: symbols.Fault{Part: symbols.PTParam, Index: i}, class: b.Class, method: b.Method}
		if b.Class < 0 {
			it.class = p.Methods[b.Method].Owner
		}
		l = append(l, it.bounds(&b.Lo, &b.Hi, b.Arity)...)
	}
	for i := range p.Types {
		b := &p.Types[i]
		it := item{fault: symbols.Fault{Part: symbols.PTypeMember, Index: i}, class: b.Owner, method: -1}
		l = append(l, it.bounds(&b.Lo, &b.Hi, b.Arity)...)
	}
	for i := range p.Methods {
		l = append(l, methodItems(p, i)...)
	}
	return l
}

func (it item) bounds(lo, hi *api.Type, arity int) []item {
	low, high := it, it
	low.t, low.arity = lo, arity
	high.t, high.arity = hi, arity
	if lo.Kind == api.TNothing {
		low.arity = -1
	}
	if hi.Kind == api.TAny {
		high.arity = -1
	}
	return []item{low, high}
}

func methodItems(p *api.Program, i int) []item {
	var l []item
	m := &p.Methods[i]
	last := -1
	for k := 0; k < m.Params; k++ {
		if m.Locals[k].Flags&api.Using == 0 {
			last = k
		}
	}
	base := item{fault: symbols.Fault{Part: symbols.PMethod, Index: i}, locals: m.Locals, class: m.Owner, method: i, params: m.Params}
	for k := range m.Locals {
		it := base
		it.t = &m.Locals[k].Type
		it.byName, it.repeat = k < m.Params, k == last
		if k >= m.Params {
			it.outer, it.params = true, len(m.Locals)
		}
		l = append(l, it)
	}
	base.t = &m.Result
	return append(l, base)
}

func (it *item) error(p *api.Program) api.Errno {
	env := api.Env{P: *p, Locals: it.locals}
	if e := firstError(env, *it.t); e != api.OK {
		return e
	}
	o := oracle{env: env}
	if it.arity >= 0 && o.arity(it.t) != it.arity {
		return api.ErrArity
	}
	if it.t.Kind == api.TByName && !it.byName || it.t.Kind == api.TRepeat && !it.repeat {
		return api.ErrInvalid
	}
	if it.parent {
		for _, a := range it.t.Args {
			if a.Kind == api.TWild {
				return api.ErrInvalid
			}
		}
	}
	if !it.inScope(p, it.t) {
		return api.ErrInvalid
	}
	return api.OK
}

func (it *item) inScope(p *api.Program, t *api.Type) bool {
	// The classes from that of the type outwards.
	var classes []int
	for c := it.class; c >= 0; c = p.Classes[c].Owner {
		classes = append(classes, c)
	}
	ok := t.Kind != api.TVar
	if t.Kind == api.TLocal {
		ok = t.Sym < it.params
	}
	if t.Kind == api.TThis || t.Kind == api.TParam {
		ok = t.Kind == api.TParam && p.TParams[t.Sym].Class == -1 && p.TParams[t.Sym].Method == it.method
		for n, c := range classes {
			if t.Kind == api.TThis && t.Sym == c {
				ok = n == 0 && !it.parent || n > 0 && (it.outer || p.Classes[c].Kind == api.IsObject)
			}
			if t.Kind == api.TParam && p.TParams[t.Sym].Class == c {
				ok = n == 0 || it.outer
			}
		}
	}
	for i := range t.Args {
		ok = it.inScope(p, &t.Args[i]) && ok
	}
	return ok
}
