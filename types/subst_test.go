package types_test

import (
	"math/rand"
	"testing"

	"newel/api"
	"newel/types"
)

// P7.2: Subst replaces type parameters; what is free in an argument keeps its
// binder.
func TestSubst(t *testing.T) {
	a, b := class(1, integer), fun(text, bound(1, 0))
	for i, c := range []struct {
		t      api.Type
		params []int
		args   []api.Type
		want   api.Type
	}{
		{integer, nil, nil, integer}, {param(0), nil, nil, param(0)}, {param(0), []int{0}, []api.Type{a}, a}, {param(1), []int{0}, []api.Type{a}, param(1)}, {fun(param(0), param(1), param(0)), []int{1, 0}, []api.Type{a, unit}, fun(unit, a, unit)},
		{fun(param(0), param(1)), []int{0, 1}, []api.Type{param(1), param(0)}, fun(param(1), param(0))}, {param(0), []int{0}, []api.Type{array(param(0))}, array(param(0))}, {class(0, param(0)), []int{0}, []api.Type{api.Type{}}, class(0, api.Type{})},
		{param(-1), []int{-1}, []api.Type{a}, a}, {param(1 << 62), []int{1 << 62}, []api.Type{a}, a}, {fun(sym(api.TParam, 2, param(2)), class(2), sym(api.TMember, 2, param(3))), []int{2, 3}, []api.Type{a, unit}, fun(a, class(2), sym(api.TMember, 2, unit))}, {api.Type{Kind: api.TParam, Sym: 4, Name: "a", Num: 5}, []int{4}, []api.Type{a}, a},
		{lambda(1, param(0)), []int{0}, []api.Type{a}, lambda(1, a)}, {lambda(1, param(0)), []int{0}, []api.Type{b}, lambda(1, fun(text, bound(1, 1)))}, {lambda(1, lambda(1, array(param(0)))), []int{0}, []api.Type{bound(0, 4)}, lambda(1, lambda(1, array(bound(0, 6))))},
		{lambda(1, param(0)), []int{0}, []api.Type{lambda(2, fun(bound(0, 0), bound(0, 1), bound(0, 2)))}, lambda(1, lambda(2, fun(bound(0, 0), bound(0, 2), bound(0, 3))))},
		{match(0, param(0), param(0), param(0), param(0), param(0)), []int{0}, []api.Type{bound(3, 0)}, match(0, bound(3, 0), bound(3, 1), bound(3, 1), bound(3, 1), bound(3, 1))}, {lambda(1, match(2, param(0), bound(0, 0), bound(1, 1))), []int{0}, []api.Type{bound(3, 0)}, lambda(1, match(2, bound(3, 1), bound(0, 0), bound(1, 1)))},
		{param(0), []int{0}, []api.Type{match(1, bound(0, 0), bound(0, 0), bound(0, 1))}, match(1, bound(0, 0), bound(0, 0), bound(0, 1))}, {lambda(1, param(0)), []int{0}, []api.Type{match(1, bound(0, 0), bound(0, 0), bound(0, 1))}, lambda(1, match(1, bound(0, 1), bound(0, 0), bound(0, 2)))},
		{lambda(1, fun(bound(0, 0), bound(0, 1))), []int{0}, []api.Type{a}, lambda(1, fun(bound(0, 0), bound(0, 1)))}, {lambda(1, param(0)), []int{0}, []api.Type{sym(api.TBound, 0, bound(0, 0), param(0))}, lambda(1, sym(api.TBound, 1, bound(0, 1), param(0)))},
		{lambda(1, param(0)), []int{0}, []api.Type{bound(0, -1)}, lambda(1, bound(0, -1))}, {num(api.TLambda, 1, param(0), param(0)), []int{0}, []api.Type{bound(0, 0)}, num(api.TLambda, 1, bound(0, 1), bound(0, 0))}, {of(-3, param(0), of(99, param(0))), []int{0}, []api.Type{of(100)}, of(-3, of(100), of(99, of(100)))},
		{chain(60, param(0)), []int{0}, []api.Type{chain(5, integer)}, chain(64, integer)}, {class(0, append(wide(1000).Args, param(0))...), []int{0}, []api.Type{wide(1000)}, class(0, append(wide(1000).Args, wide(1000))...)}, {integer, []int{5}, []api.Type{wide(2000)}, integer},
	} {
		got, e := types.Subst(c.t, c.params, c.args)
		if e != api.OK || !same(got, c.want) {
			t.Errorf("%d: %s, %v, want %s", i, show(got), e, show(c.want))
		}
	}
}

// P7.2: the errors of Subst, in their order.
func TestSubstErrors(t *testing.T) {
	big, deep := wide(2001), chain(65, integer)
	for i, c := range []struct {
		t      api.Type
		params []int
		args   []api.Type
		want   api.Errno
	}{
		{big, []int{0}, nil, api.ErrLimit}, {deep, []int{0}, nil, api.ErrDepth}, {deep, []int{0}, []api.Type{big}, api.ErrDepth}, {chain(65, big), nil, nil, api.ErrLimit}, {integer, []int{0, 0}, []api.Type{deep, big}, api.ErrDepth}, {integer, []int{0, 0}, []api.Type{big, deep}, api.ErrLimit}, {integer, nil, []api.Type{integer, deep}, api.ErrDepth},
		{integer, []int{0}, nil, api.ErrArity}, {integer, nil, []api.Type{integer}, api.ErrArity}, {integer, []int{0, 0}, []api.Type{integer}, api.ErrArity}, {integer, []int{3, 4, 3}, []api.Type{integer, integer, integer}, api.ErrTwice}, {param(0), []int{0, 0}, []api.Type{integer, integer}, api.ErrTwice},
		{chain(60, param(0)), []int{0}, []api.Type{chain(6, integer)}, api.ErrDepth}, {class(0, append(wide(1000).Args, param(0))...), []int{0}, []api.Type{wide(1001)}, api.ErrLimit}, {class(0, param(0), param(0), chain(60, param(0))), []int{0}, []api.Type{wide(1500)}, api.ErrLimit}, {class(0, times(1999, param(0))...), []int{0}, []api.Type{wide(2000)}, api.ErrLimit}, {class(0, param(0), chain(63, param(0))), []int{0}, []api.Type{array(integer)}, api.ErrDepth}, {ring(1), nil, nil, api.ErrLimit}, {param(0), []int{0}, []api.Type{doubled(64, integer)}, api.ErrLimit},
	} {
		if got, e := types.Subst(c.t, c.params, c.args); e != c.want || !same(got, api.Type{}) {
			t.Errorf("%d: %s, %v, want %v", i, show(got), e, c.want)
		}
	}
}

// P7.2: Open takes a TLambda away.
func TestOpen(t *testing.T) {
	for i, c := range []struct {
		t    api.Type
		args []api.Type
		want api.Type
	}{
		{lambda(1, array(bound(0, 0))), []api.Type{integer}, array(integer)}, {lambda(2, fun(bound(1, 0), bound(0, 0))), []api.Type{integer, text}, fun(text, integer)}, {lambda(1, unit), []api.Type{integer}, unit}, {lambda(0, unit), nil, unit}, {lambda(14, bound(13, 0)), append(times(13, integer), text), text},
		{lambda(1, fun(bound(0, 0), bound(0, 1), bound(5, 2))), []api.Type{integer}, fun(integer, bound(0, 0), bound(5, 1))}, {lambda(1, lambda(1, fun(bound(0, 0), bound(0, 1), bound(0, 2)))), []api.Type{text}, lambda(1, fun(bound(0, 0), text, bound(0, 1)))},
		{lambda(1, lambda(1, bound(0, 1))), []api.Type{bound(0, 0)}, lambda(1, bound(0, 1))}, {lambda(1, lambda(1, bound(0, 1))), []api.Type{lambda(1, fun(bound(0, 0), bound(0, 1)))}, lambda(1, lambda(1, fun(bound(0, 0), bound(0, 2))))}, {lambda(1, match(1, bound(0, 0), bound(0, 0), bound(0, 1))), []api.Type{bound(4, 7)}, match(1, bound(4, 7), bound(0, 0), bound(4, 8))},
		{lambda(1, fun(bound(1, 0), bound(-1, 0), bound(0, -1))), []api.Type{integer}, fun(bound(1, 0), bound(-1, 0), bound(0, -1))}, {lambda(1, sym(api.TBound, 0, unit)), []api.Type{integer}, integer}, {lambda(1, sym(api.TBound, 2, bound(0, 0))), []api.Type{integer}, sym(api.TBound, 1, integer)}, {lambda(1, num(api.TLambda, 1, bound(0, 1), bound(0, 1), bound(0, 0))), []api.Type{text}, num(api.TLambda, 1, text, bound(0, 0), text)},
		{api.Type{Kind: api.TLambda, Sym: 3, Name: "a", Num: 1, Args: []api.Type{bound(0, 0)}}, []api.Type{text}, text}, {lambda(1, chain(60, bound(0, 0))), []api.Type{chain(5, text)}, chain(64, text)},
	} {
		got, e := types.Open(c.t, c.args)
		if e != api.OK || !same(got, c.want) {
			t.Errorf("%d: %s, %v, want %s", i, show(got), e, show(c.want))
		}
	}
}

// P7.2: the errors of Open, in their order.
func TestOpenErrors(t *testing.T) {
	big, deep := wide(2001), chain(65, integer)
	for i, c := range []struct {
		t    api.Type
		args []api.Type
		want api.Errno
	}{
		{big, nil, api.ErrLimit}, {deep, nil, api.ErrDepth}, {deep, []api.Type{big}, api.ErrDepth}, {integer, []api.Type{integer, deep, big}, api.ErrDepth}, {integer, []api.Type{big, deep}, api.ErrLimit},
		{integer, nil, api.ErrKind}, {lambda(1, integer).Args[0], []api.Type{integer}, api.ErrKind}, {num(api.TLambda, 1), []api.Type{integer}, api.ErrKind}, {num(api.TLambda, 1, integer, integer), []api.Type{integer}, api.ErrKind}, {match(1, integer, integer, integer), []api.Type{integer}, api.ErrKind}, {num(api.TLambda, 1), nil, api.ErrKind}, {of(99), nil, api.ErrKind},
		{lambda(1, integer), nil, api.ErrArity}, {lambda(1, integer), times(2, integer), api.ErrArity}, {lambda(-1, integer), nil, api.ErrArity}, {lambda(0, integer), times(1, integer), api.ErrArity}, {lambda(1<<62, integer), times(1, integer), api.ErrArity},
		{lambda(1, chain(60, bound(0, 0))), []api.Type{chain(6, integer)}, api.ErrDepth}, {lambda(1, fun(bound(0, 0), bound(0, 0))), []api.Type{wide(1000)}, api.ErrLimit}, {lambda(1, fun(chain(60, bound(0, 0)), bound(0, 0))), []api.Type{fun(wide(990), chain(10, integer))}, api.ErrLimit},
	} {
		if got, e := types.Open(c.t, c.args); e != c.want || !same(got, api.Type{}) {
			t.Errorf("%d: %s, %v, want %v", i, show(got), e, c.want)
		}
	}
}

// P7.2: OpenCase takes the binder of a case away.
func TestOpenCase(t *testing.T) {
	m := match(2, bound(0, 0), class(2, bound(0, 0), bound(1, 0)), fun(bound(1, 0), bound(1, 1)), unit, lambda(1, bound(0, 1)))
	odd := num(api.TMatch, 1, integer, bound(0, 0), array(bound(0, 0)), text)
	for i, c := range []struct {
		t             api.Type
		k             int
		args          []api.Type
		pattern, body api.Type
		want          api.Errno
	}{
		{m, 0, []api.Type{integer, text}, class(2, integer, text), fun(text, bound(1, 0)), api.OK}, {m, 1, []api.Type{integer, text}, unit, lambda(1, integer), api.OK}, {m, 1, []api.Type{bound(0, 0), text}, unit, lambda(1, bound(0, 1)), api.OK}, {match(0, integer, bound(0, 3), bound(0, 1)), 0, nil, bound(0, 2), bound(0, 0), api.OK},
		{odd, 0, []api.Type{text}, text, array(text), api.OK}, {odd, 1, []api.Type{text}, api.Type{}, api.Type{}, api.ErrRange}, {api.Type{Kind: api.TMatch, Sym: 1, Name: "a", Args: []api.Type{integer, unit, text}}, 0, nil, unit, text, api.OK},
	} {
		pattern, body, e := types.OpenCase(c.t, c.k, c.args)
		if e != c.want || !same(pattern, c.pattern) || !same(body, c.body) {
			t.Errorf("%d: %s, %s, %v", i, show(pattern), show(body), e)
		}
	}
}

// P7.2: the errors of OpenCase, in their order.
func TestOpenCaseErrors(t *testing.T) {
	big, deep := wide(2001), chain(65, integer)
	one := match(1, integer, integer, integer)
	for i, c := range []struct {
		t    api.Type
		k    int
		args []api.Type
		want api.Errno
	}{
		{big, 0, nil, api.ErrLimit}, {deep, -1, nil, api.ErrDepth}, {integer, 0, []api.Type{deep, big}, api.ErrDepth}, {integer, 0, []api.Type{big}, api.ErrLimit},
		{integer, 0, nil, api.ErrKind}, {lambda(1, integer), 5, nil, api.ErrKind}, {api.Type{}, 0, nil, api.ErrKind},
		{one, 1, times(1, integer), api.ErrRange}, {one, -1, times(1, integer), api.ErrRange}, {one, 1 << 62, nil, api.ErrRange}, {one, -1 << 63, nil, api.ErrRange}, {of(api.TMatch), 0, nil, api.ErrRange}, {of(api.TMatch, integer), 0, nil, api.ErrRange}, {of(api.TMatch, integer, integer), 0, nil, api.ErrRange}, {of(api.TMatch, integer, integer, integer, integer), 1, nil, api.ErrRange},
		{one, 0, nil, api.ErrArity}, {one, 0, times(2, integer), api.ErrArity}, {match(-1, integer, integer, integer), 0, nil, api.ErrArity},
		{match(1, integer, chain(60, bound(0, 0)), integer), 0, []api.Type{chain(6, integer)}, api.ErrDepth}, {match(1, integer, integer, chain(60, bound(0, 0))), 0, []api.Type{chain(6, integer)}, api.ErrDepth}, {match(1, integer, fun(times(2, bound(0, 0))...), integer), 0, []api.Type{wide(1000)}, api.ErrLimit}, {match(1, integer, integer, fun(times(2, bound(0, 0))...)), 0, []api.Type{wide(1000)}, api.ErrLimit},
		{match(1, integer, chain(64-2, bound(0, 0)), class(0, times(100, bound(0, 0))...)), 0, []api.Type{fun(integer, chain(20, integer))}, api.ErrDepth}, {match(1, integer, class(0, times(100, bound(0, 0))...), chain(62, bound(0, 0))), 0, []api.Type{fun(integer, chain(20, integer))}, api.ErrLimit},
	} {
		pattern, body, e := types.OpenCase(c.t, c.k, c.args)
		if e != c.want || !same(pattern, api.Type{}) || !same(body, api.Type{}) {
			t.Errorf("%d: %s, %s, %v, want %v", i, show(pattern), show(body), e, c.want)
		}
	}
}

// named is a type whose binders have numbers of their own: a TBound names its
// binder, or how far outside of the type it is (Sym, if there is no binder).
type named struct {
	t      api.Type
	binder int // of a TBound; of others, which one they are for their bound Args
	args   []named
	cases  []int // the binders of the Args, 0: none
}

// namer gives binders numbers.
type namer struct{ last int }

func (n *namer) name(t api.Type, around []int) named {
	out := named{t: t}
	if t.Kind == api.TBound {
		if t.Sym >= 0 && t.Sym < len(around) {
			out.binder = around[len(around)-1-t.Sym]
		} else if t.Sym >= 0 {
			out.t.Sym -= len(around)
		}
	}
	for i, a := range t.Args {
		inner, binder := around, 0
		if t.Kind == api.TLambda && i == 0 || t.Kind == api.TMatch && i > 0 {
			n.last++
			binder = n.last
			inner = append(append([]int(nil), around...), binder)
		}
		out.args = append(out.args, n.name(a, inner))
		out.cases = append(out.cases, binder)
	}
	return out
}

// numbered is a named type as a type again.
func numbered(n named, around []int) api.Type {
	t := n.t
	t.Args = nil
	if t.Kind == api.TBound {
		if n.binder == 0 && t.Sym >= 0 {
			t.Sym += len(around)
		}
		for i, b := range around {
			if b == n.binder {
				t.Sym = len(around) - 1 - i
			}
		}
	}
	for i, a := range n.args {
		inner := around
		if n.cases[i] != 0 {
			inner = append(append([]int(nil), around...), n.cases[i])
		}
		t.Args = append(t.Args, numbered(a, inner))
	}
	return t
}

// put puts types in place of nodes.
func put(n named, in func(n named) (named, bool)) named {
	if out, ok := in(n); ok {
		return out
	}
	args := n.args
	n.args = nil
	for _, a := range args {
		n.args = append(n.args, put(a, in))
	}
	return n
}

// P7.2: Subst, Open and OpenCase of random types, raw ones too, are what they
// are with names.
func TestSubstRandom(t *testing.T) {
	for seed := range int64(4000) {
		r := rand.New(rand.NewSource(seed))
		p := rightProgram(r)
		s := everything(r, randomEnv(r, p))
		make := func() api.Type {
			switch r.Intn(3) {
			case 0:
				return binding(r, 3)
			case 1:
				return s.proper(3, []int{2, 1})
			}
			return changed(r, s.proper(3, []int{2}))
		}
		var n namer
		u, args := make(), []api.Type{make(), make()}
		if types.Size(u)*(types.Size(args[0])+types.Size(args[1])) > 2000 {
			continue
		}
		params := []int{r.Intn(4) - 1, 3}
		want := put(n.name(u, nil), func(n2 named) (named, bool) {
			for i, k := range params {
				if n2.t.Kind == api.TParam && n2.t.Sym == k {
					return n.name(args[i], nil), true
				}
			}
			return named{}, false
		})
		if got, e := types.Subst(u, params, args); e != api.OK || !same(got, numbered(want, nil)) {
			t.Fatalf("seed %d: Subst of %s: %s, %v, want %s", seed, show(u), show(got), e, show(numbered(want, nil)))
		}
		f := n.name(lambda(2, u), nil)
		if got, e := types.Open(lambda(2, u), args); e != api.OK || !same(got, numbered(n.open(f, 0, args), nil)) {
			t.Fatalf("seed %d: Open of %s: %s, %v, want %s", seed, show(u), show(got), e, show(numbered(n.open(f, 0, args), nil)))
		}
		m := match(2, u, make(), make(), make(), u)
		k := r.Intn(2)
		named := n.name(m, nil)
		pattern, body, e := types.OpenCase(m, k, args)
		if e == api.OK && (!same(pattern, numbered(n.open(named, 2*k+1, args), nil)) || !same(body, numbered(n.open(named, 2*k+2, args), nil))) {
			t.Fatalf("seed %d: OpenCase %d of %s: %s, %s", seed, k, show(m), show(pattern), show(body))
		}
	}
}

// open returns one of the Args of a binder with arguments for its variables.
func (n *namer) open(t named, index int, args []api.Type) named {
	var variable func(v named) (named, bool)
	variable = func(v named) (named, bool) {
		switch {
		case v.binder != t.cases[index]:
			return named{}, false
		case v.t.Num >= 0 && v.t.Num < len(args):
			return n.name(args[v.t.Num], nil), true
		}
		// No variable of the binder: it stays what it is.
		out := v
		out.binder, out.t.Sym, out.args = 0, 0, nil
		for _, a := range v.args {
			out.args = append(out.args, put(a, variable))
		}
		return out, true
	}
	return put(t.args[index], variable)
}

// binding returns a random raw type with many binders and TBounds.
func binding(r *rand.Rand, depth int) api.Type {
	t := api.Type{Kind: []int{api.TLambda, api.TMatch, api.TBound, api.TBound, api.TParam, api.TFun}[r.Intn(6)], Num: r.Intn(4) - 1, Sym: r.Intn(5) - 1}
	for range r.Intn(4) {
		if depth > 0 {
			t.Args = append(t.Args, binding(r, depth-1))
		}
	}
	return t
}

// P7.5: Subst with the parameters themselves changes nothing; opening a TLambda
// whose variables are not used is its body.
func TestSubstNothing(t *testing.T) {
	for seed := range int64(500) {
		r := rand.New(rand.NewSource(seed))
		p := rightProgram(r)
		s := everything(r, randomEnv(r, p))
		var params []int
		var args []api.Type
		for k := range p.TParams {
			params = append(params, k)
			args = append(args, param(k))
		}
		for range 10 {
			u := s.proper(4, nil)
			if types.Size(u) > 2000 {
				continue
			}
			if got, e := types.Subst(u, params, args); e != api.OK || !same(got, u) {
				t.Fatalf("seed %d: Subst of %s: %s, %v", seed, show(u), show(got), e)
			}
			if got, e := types.Open(lambda(2, u), []api.Type{integer, text}); e != api.OK && types.Size(u) < 2000 || e == api.OK && !same(got, u) {
				t.Fatalf("seed %d: Open of %s: %s, %v", seed, show(u), show(got), e)
			}
		}
	}
}
