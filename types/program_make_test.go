package types_test

import (
	"math/rand"
	"slices"
	"testing"

	"newel/api"
	"newel/types"
)

// maker makes a random program that CheckAll accepts.
type maker struct {
	r *rand.Rand
	p api.Program
}

func rightProgram(r *rand.Rand) api.Program {
	m := maker{r: r, p: api.Program{Main: -1}}
	for i := range 1 + r.Intn(6) {
		m.declare(i)
	}
	for range r.Intn(3) {
		m.method(-1)
	}
	for i := range m.p.Classes {
		m.parents(i)
	}
	for i := range m.p.Fields {
		m.p.Fields[i].Type = m.scene(m.p.Fields[i].Owner, -1).proper(2, nil)
	}
	for i := range m.p.TParams {
		t := &m.p.TParams[i]
		c := t.Class
		if t.Method >= 0 {
			c = m.p.Methods[t.Method].Owner
		}
		t.Lo, t.Hi = m.bounds(m.scene(c, t.Method), t.Arity)
	}
	for i := range m.p.Types {
		t := &m.p.Types[i]
		t.Lo, t.Hi = m.bounds(m.scene(t.Owner, -1), t.Arity)
	}
	for i := range m.p.Methods {
		m.locals(i)
	}
	return m.p
}

// declare makes a class with its members, without types.
func (m *maker) declare(i int) {
	c := api.Class{Kind: m.r.Intn(3), Owner: m.r.Intn(i+1) - 1, Parents: []api.Type{anyType}}
	for c.Name = ""; c.Name == "" || slices.ContainsFunc(m.p.Classes, func(d api.Class) bool { return d.Owner == c.Owner && d.Name == c.Name }); {
		c.Name = tricky(m.r)
	}
	m.p.Classes = append(m.p.Classes, c)
	if c.Kind != api.IsObject {
		m.p.Classes[i].TParams = m.tparams(i, -1)
	}
	for _, name := range []string{"f", "g", "=>"}[m.r.Intn(4):] {
		m.p.Classes[i].Fields = append(m.p.Classes[i].Fields, len(m.p.Fields))
		m.p.Fields = append(m.p.Fields, api.Field{Name: name, Owner: i, Flags: []int{0, 0, api.Final, api.Var, api.Lazy}[m.r.Intn(5)]})
	}
	for _, name := range []string{"t", "<:"}[m.r.Intn(3):] {
		m.p.Classes[i].Types = append(m.p.Classes[i].Types, len(m.p.Types))
		m.p.Types = append(m.p.Types, api.TypeMember{Name: name, Owner: i, Arity: max(0, m.r.Intn(5)-2)})
	}
	for range m.r.Intn(3) {
		m.p.Classes[i].Methods = append(m.p.Classes[i].Methods, len(m.p.Methods))
		m.method(i)
	}
}

func (m *maker) tparams(class, method int) []int {
	var l []int
	for _, name := range []string{"T", "?", "this", "Array", "Int"}[m.r.Intn(4):][:m.r.Intn(3)] {
		t := api.TypeParam{Name: name, Class: class, Method: method, Arity: max(0, m.r.Intn(5)-2)}
		if class >= 0 {
			t.Variance = m.r.Intn(3) - 1
		}
		l = append(l, len(m.p.TParams))
		m.p.TParams = append(m.p.TParams, t)
	}
	return l
}

// method makes a method with locals, without types.
func (m *maker) method(owner int) {
	i := len(m.p.Methods)
	f := api.Method{Name: "m", Owner: owner, Body: &api.Tree{}, TParams: m.tparams(-1, i)}
	for k, name := range []string{"x", "=>", "this", "?", "Null"} {
		if m.r.Intn(2) == 0 {
			f.Locals = append(f.Locals, api.Local{Name: name})
			if f.Params == k && m.r.Intn(3) > 0 {
				f.Params++
			}
		}
	}
	for k := range f.Locals {
		if k >= f.Params {
			f.Locals[k].Flags = []int{0, api.Var, api.Lazy, api.Given}[m.r.Intn(4)]
		} else if m.r.Intn(4) == 0 {
			f.Locals[k].Flags = api.Using
		}
	}
	m.p.Methods = append(m.p.Methods, f)
}

// scene returns what is in scope in a class and a method, but its locals.
func (m *maker) scene(class, method int) *scene {
	s := scene{r: m.r, env: api.Env{P: m.p}, fields: stableFields(m.p)}
	for i, t := range m.p.TParams {
		if t.Class >= 0 && t.Class == class || t.Method >= 0 && t.Method == method {
			s.tparams = append(s.tparams, i)
		}
	}
	if class >= 0 {
		s.this = append(s.this, class)
		for c := m.p.Classes[class].Owner; c >= 0; c = m.p.Classes[c].Owner {
			if m.p.Classes[c].Kind == api.IsObject {
				s.this = append(s.this, c)
			}
		}
	}
	return &s
}

// parents gives a class parents among the earlier ones.
func (m *maker) parents(i int) {
	c := &m.p.Classes[i]
	s := m.scene(i, -1)
	s.this = s.this[1:]
	for _, k := range m.r.Perm(i) {
		d := &m.p.Classes[k]
		isFirst := d.Kind == api.IsClass && c.Kind != api.IsTrait && c.Parents[0].Kind == api.TAny
		if d.Kind == api.IsObject || !isFirst && d.Kind != api.IsTrait || m.r.Intn(2) == 0 {
			continue
		}
		t := class(k)
		for _, j := range d.TParams {
			t.Args = append(t.Args, s.of(m.p.TParams[j].Arity, 2, nil))
		}
		if d.Kind == api.IsTrait {
			c.Parents = append(c.Parents, t)
		} else {
			c.Parents[0] = t
		}
	}
}

func (m *maker) bounds(s *scene, arity int) (lo, hi api.Type) {
	lo, hi = nothing, anyType
	if m.r.Intn(2) == 0 {
		lo = s.of(arity, 2, nil)
	}
	if m.r.Intn(2) == 0 {
		hi = s.of(arity, 2, nil)
	}
	return lo, hi
}

// locals gives the locals and the result of a method their types.
func (m *maker) locals(i int) {
	f := &m.p.Methods[i]
	s := m.scene(f.Owner, i)
	s.env.Locals = f.Locals
	inside := *s
	last := -1
	for k, l := range f.Locals {
		if l.Flags&(api.Var|api.Lazy) == 0 {
			inside.locals = append(inside.locals, k)
		}
		if k < f.Params {
			s.locals = append(s.locals, k)
			if l.Flags&api.Using == 0 {
				last = k
			}
		}
	}
	if f.Owner >= 0 {
		for c := m.p.Classes[f.Owner].Owner; c >= 0; c = m.p.Classes[c].Owner {
			inside.this = append(inside.this, c)
			inside.tparams = append(inside.tparams, m.p.Classes[c].TParams...)
		}
	}
	for k := range f.Locals {
		if k >= f.Params {
			f.Locals[k].Type = inside.proper(2, nil)
			continue
		}
		t := s.proper(2, nil)
		if m.r.Intn(4) == 0 {
			t = byName(t)
		} else if k == last && m.r.Intn(2) == 0 {
			t = repeat(t)
		}
		f.Locals[k].Type = t
	}
	f.Result = s.proper(2, nil)
}

// P7.1: CheckAll accepts right programs, Check all types of them.
func TestRightPrograms(t *testing.T) {
	for seed := range int64(1500) {
		r := rand.New(rand.NewSource(seed))
		p := rightProgram(r)
		if f := types.CheckAll(p); f.Code != api.OK {
			t.Fatalf("seed %d: %v", seed, f)
		}
		if f := faultOf(p); f.Code != api.OK {
			t.Fatalf("seed %d: the oracle tells %v", seed, f)
		}
		env := randomEnv(r, p)
		s := everything(r, env)
		for range 20 {
			u := s.of(max(0, r.Intn(6)-3), 4, nil)
			if e := firstError(env, u); e != types.Check(env, u) || e != api.OK && e != api.ErrLimit {
				t.Fatalf("seed %d: %s: %v, the oracle tells %v", seed, show(u), types.Check(env, u), e)
			}
			if types.Size(u) > 1000 {
				continue
			}
			for range 5 {
				c := changed(r, u)
				if got, want := types.Check(env, c), firstError(env, c); got != want {
					t.Fatalf("seed %d: %s: %v, want %v", seed, show(c), got, want)
				}
			}
		}
	}
}

// randomEnv returns a program with the locals of one of its methods.
func randomEnv(r *rand.Rand, p api.Program) api.Env {
	env := api.Env{P: p}
	if len(p.Methods) > 0 {
		env.Locals = p.Methods[r.Intn(len(p.Methods))].Locals
	}
	return env
}
