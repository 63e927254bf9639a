package types_test

import (
	"math/rand"
	"slices"
	"testing"

	"newel/api"
	"newel/types"
)

// P1, R2, R4: all functions at any types: they change nothing, share no memory
// with their arguments, and return zero values with an error.
func checkFunctions(t *testing.T, env api.Env, u, v api.Type) {
	t.Helper()
	a, b := clone(u), clone(v)
	types.Check(env, a)
	types.Arity(env, a)
	types.Size(a)
	types.Depth(a)
	types.Free(a)
	types.Vars(a)
	if types.Compare(a, b) != -types.Compare(b, a) || types.Equal(a, b) != (types.Compare(a, b) == 0) || !types.Equal(a, u) {
		t.Fatalf("Compare of %s and %s", show(a), show(b))
	}
	text, e := types.Text(env, a)
	if e != api.OK && text != "" {
		t.Fatalf("Text of %s: %q, %v", show(a), text, e)
	}
	args := []api.Type{b, clone(u)}
	results := func() []api.Type {
		var l []api.Type
		add := func(e api.Errno, made ...api.Type) {
			for _, m := range made {
				if e != api.OK && !same(m, api.Type{}) {
					t.Fatalf("%s: an error %v with %s", show(a), e, show(m))
				}
				l = append(l, m)
			}
		}
		s, e := types.Subst(a, []int{0, 1}, args)
		add(e, s)
		o, e := types.Open(a, args[:1])
		add(e, o)
		o, e = types.Open(a, args)
		add(e, o)
		p, q, e := types.OpenCase(a, 0, args)
		add(e, p, q)
		p, q, e = types.OpenCase(a, 1, args[:1])
		add(e, p, q)
		n, e := types.Normal(a)
		add(e, n)
		return l
	}
	first, again := results(), results()
	if !slices.EqualFunc(first, again, same) {
		t.Fatalf("%s: other results", show(a))
	}
	for i := range first {
		spoil(first[i])
		if !same(a, u) || !same(b, v) || !same(args[1], u) || !spared(a) || !spared(b) || !spared(args[1]) {
			t.Fatalf("%s became %s, %s became %s, by the result %d", show(u), show(a), show(v), show(b), i)
		}
	}
	for _, r := range again {
		before := show(r)
		if countNodes(&r, map[*api.Type]bool{}) < 0 {
			t.Fatalf("%s: lists of %s share memory", show(u), before)
		}
	}
}

// countNodes returns the number of nodes below a type, -1 if one stands twice.
func countNodes(t *api.Type, seen map[*api.Type]bool) int {
	n := 0
	for i := range t.Args {
		if seen[&t.Args[i]] {
			return -1
		}
		seen[&t.Args[i]] = true
		below := countNodes(&t.Args[i], seen)
		if below < 0 {
			return -1
		}
		n += 1 + below
	}
	return n
}

// P7.5: the consequences, at types that Check accepts.
func checkConsequences(t *testing.T, env api.Env, u api.Type) {
	t.Helper()
	n, e := types.Normal(u)
	if e != api.OK {
		return
	}
	if again, e := types.Normal(n); e != api.OK || !same(again, n) {
		t.Fatalf("%s: Normal is %s, and of this %s, %v", show(u), show(n), show(again), e)
	}
	if types.Check(env, u) == api.OK && !hasMore(n) && !hasWildFunction(env, u) {
		if e := types.Check(env, n); e != api.OK {
			t.Fatalf("%s: Normal is %s: %v", show(u), show(n), e)
		}
	}
}

// hasMore reports whether a TAnd or TOr has more Args than Check permits.
func hasMore(t api.Type) bool {
	return (t.Kind == api.TAnd || t.Kind == api.TOr) && len(t.Args) > 20 || slices.ContainsFunc(t.Args, hasMore)
}

// hasWildFunction reports whether a TWild stands for a type function.
func hasWildFunction(env api.Env, t api.Type) bool {
	for i, a := range t.Args {
		if t.Kind == api.TClass && a.Kind == api.TWild && env.P.TParams[env.P.Classes[t.Sym].TParams[i]].Arity != 0 || hasWildFunction(env, a) {
			return true
		}
	}
	return false
}

func TestProperties(t *testing.T) {
	for seed := range int64(700) {
		r := rand.New(rand.NewSource(seed))
		p := rightProgram(r)
		env := randomEnv(r, p)
		s := everything(r, env)
		for range 5 {
			u, v := s.of(max(0, r.Intn(8)-5), 4, nil), s.proper(3, []int{2})
			checkConsequences(t, env, u)
			checkFunctions(t, env, u, v)
			u = changed(r, u)
			checkConsequences(t, env, u)
			checkFunctions(t, env, u, v)
			checkConsequences(t, env, rawType(r, 4))
			checkFunctions(t, env, rawType(r, 3), rawType(r, 2))
		}
		checkFunctions(t, env, binding(r, 4), binding(r, 3))
		checkFunctions(t, env, lambda(r.Intn(3), binding(r, 3)), binding(r, 3))
		checkFunctions(t, env, and(mixed(r, 3), mixed(r, 2)), mixed(r, 2))
		checkConsequences(t, env, or(mixed(r, 3), mixed(r, 3)))
	}
}

// P1: no function changes a program or its locals.
func TestEnvStays(t *testing.T) {
	env := sample()
	before := sample()
	for _, u := range accepted() {
		types.Check(env, u)
		text, _ := types.Text(env, u)
		types.Read(env, text)
	}
	types.CheckAll(env.P)
	after := env.P
	for i, c := range after.Classes {
		if !slices.Equal(c.TParams, before.P.Classes[i].TParams) || !slices.EqualFunc(c.Parents, before.P.Classes[i].Parents, same) || c.Name != before.P.Classes[i].Name {
			t.Errorf("the class %d was changed", i)
		}
	}
	for i, m := range after.Methods {
		if !slices.EqualFunc(m.Locals, before.P.Methods[i].Locals, func(a, b api.Local) bool { return a.Name == b.Name && a.Flags == b.Flags && same(a.Type, b.Type) }) {
			t.Errorf("the method %d was changed", i)
		}
	}
}

// P1: all functions end for types that contain themselves, or share lists.
func TestShared(t *testing.T) {
	env := sample()
	for _, u := range []api.Type{ring(1), ring(3), doubled(64, integer), doubled(3000, integer), wide(100000), chain(100000, integer)} {
		if e := types.Check(env, u); e != api.ErrLimit && e != api.ErrDepth {
			t.Errorf("Check: %v", e)
		}
		if _, e := types.Normal(u); e != api.ErrLimit && e != api.ErrDepth {
			t.Errorf("Normal: %v", e)
		}
		if _, e := types.Subst(u, nil, nil); e != api.ErrLimit && e != api.ErrDepth {
			t.Errorf("Subst: %v", e)
		}
		if _, e := types.Open(lambda(1, u), []api.Type{u}); e != api.ErrLimit && e != api.ErrDepth {
			t.Errorf("Open: %v", e)
		}
		if _, _, e := types.OpenCase(match(0, u, u, u), 0, nil); e != api.ErrLimit && e != api.ErrDepth {
			t.Errorf("OpenCase: %v", e)
		}
		if _, e := types.Text(env, u); e != api.ErrLimit && e != api.ErrDepth {
			t.Errorf("Text: %v", e)
		}
		if !types.Free(u) || types.Vars(u) != nil || types.Arity(env, u) != 0 || types.Compare(u, u) != 0 || types.Compare(u, class(0, u)) == 0 {
			t.Errorf("Free, Vars, Arity or Compare")
		}
		p := sample().P
		p.Fields[0].Type = u
		if f := types.CheckAll(p); f.Code != api.ErrLimit && f.Code != api.ErrDepth {
			t.Errorf("CheckAll: %v", f)
		}
	}
}

// FuzzTypes takes bytes as choices that make programs and types, and as a text.
func FuzzTypes(f *testing.F) {
	for seed := range int64(20) {
		f.Add(seed, "((Int, (String *)) => A[])")
		f.Add(seed, "x@0.b@1.t'0")
	}
	f.Add(int64(3), "(Int match 1 {B[(? >: Nothing <: Int)] => #0^0})")
	f.Fuzz(func(t *testing.T, seed int64, text string) {
		r := rand.New(rand.NewSource(seed))
		checkRead(t, sample(), text)
		p := rightProgram(r)
		env := randomEnv(r, p)
		checkRead(t, env, text)
		s := everything(r, env)
		u, v := s.of(max(0, r.Intn(8)-5), 4, nil), binding(r, 3)
		c := changed(r, u)
		for _, w := range []api.Type{u, c, v, mixed(r, 4), rawType(r, 4)} {
			if got, want := types.Check(env, w), firstError(env, w); got != want {
				t.Fatalf("%s: %v, want %v", show(w), got, want)
			}
			checkConsequences(t, env, w)
			checkFunctions(t, env, w, v)
		}
		if written, e := types.Text(env, u); e == api.OK {
			checkRead(t, env, edited(r, edited(r, written)))
		}
		disturb(r, &p)
		if got, want := types.CheckAll(p), faultOf(p); got != want {
			t.Fatalf("%v, want %v", got, want)
		}
	})
}
