package types_test

import (
	"slices"
	"strings"
	"testing"

	"newel/api"
	"newel/types"
)

// accepted are types of the sample that Check accepts.
func accepted() []api.Type {
	x := local(0)
	return []api.Type{
		anyType, nothing, null, unit, of(api.TBoolean), of(api.TChar), integer, long, text,
		class(0), class(1, integer), class(1, wild(nothing, integer)), class(2, integer, text, param(3)), class(2, wild(integer, text), class(1, integer), wild(integer, integer)),
		class(2, integer, integer, lambda(1, bound(0, 0))), class(2, integer, integer, wild(nothing, anyType)), class(3), class(4, class(5)),
		param(0), param(4), member(x, 0), member(field(x, 1), 0), member(this(3), 0), this(0), this(8), x, local(1), local(2), field(x, 0), field(field(this(0), 1), 0),
		and(integer, text), or(integer, text), and(times(20, text)...), or(times(20, text)...), fun(integer), fun(times(13, integer)...), array(array(integer)),
		byName(integer), repeat(integer), fun(byName(integer), repeat(integer), integer), fun(byName(integer), byName(integer), integer), fun(byName(repeatFun()), repeat(integer), unit),
		apply(param(3), integer), apply(param(6), integer, text), apply(member(x, 1), integer, text), apply(lambda(1, integer), text), apply(lambda(12, bound(11, 0)), times(12, text)...), apply(lambda(2, apply(lambda(1, bound(1, 1)), bound(0, 0))), text, text),
		match(0, integer, integer, integer), match(1, integer, class(1, bound(0, 0)), bound(0, 0)), match(12, integer, append(times(39, integer), bound(11, 0))...), match(0, integer, times(40, integer)...),
		lambda(1, bound(0, 0)), lambda(12, bound(11, 0)), lambda(1, fun(bound(0, 0), bound(0, 0))), lambda(1, match(2, bound(0, 0), bound(0, 1), bound(1, 0))), lambda(1, match(0, bound(0, 0), bound(0, 1), integer)), param(3), member(x, 1),
		refine("t", class(1, integer), nothing, anyType), refine(">:", integer, integer, integer), refine(strings.Repeat("a", 64), integer, integer, integer),
		variable(0), variable(99), class(1, variable(5)), chain(64, integer), full(2000),
	}
}

func repeatFun() api.Type { return fun(repeat(integer), integer) }

// full returns a type with a number of nodes that Check accepts.
func full(nodes int) api.Type {
	if nodes <= 13 {
		return chain(nodes, integer)
	}
	var l []api.Type
	nodes--
	for i := 13; i > 0; i-- {
		l = append(l, full(nodes/i))
		nodes -= nodes / i
	}
	return fun(l...)
}

// P7.1: types that Check accepts.
func TestCheckAccepts(t *testing.T) {
	env := sample()
	for _, u := range accepted() {
		if e := types.Check(env, u); e != api.OK {
			t.Errorf("%s: %v", show(u), e)
		}
		if oracle := firstError(env, u); oracle != api.OK {
			t.Errorf("%s: the oracle tells %v", show(u), oracle)
		}
	}
}

// with returns a type with a change.
func with(t api.Type, change func(t *api.Type)) api.Type {
	out := clone(t)
	change(&out)
	return out
}

func setSym(t api.Type, sym int) api.Type      { t.Sym = sym; return t }
func setNum(t api.Type, num int) api.Type      { t.Num = num; return t }
func setName(t api.Type, name string) api.Type { t.Name = name; return t }

// refusal is a type that Check refuses.
type refusal struct {
	t    api.Type
	want api.Errno
}

// refused are types by the rule that they break.
func refused() []refusal {
	x := local(0)
	l := []refusal{
		{full(2001), api.ErrLimit}, {wide(2001), api.ErrLimit}, {ring(1), api.ErrLimit}, {doubled(70, integer), api.ErrLimit}, {chain(5000, of(-1)), api.ErrLimit}, {chain(65, integer), api.ErrDepth}, {chain(65, of(-1)), api.ErrDepth}, {of(-1, chain(64, integer)), api.ErrDepth},
		{api.Type{}, api.ErrKind}, {of(-1), api.ErrKind}, {of(api.TKinds), api.ErrKind}, {of(1 << 62), api.ErrKind}, {array(of(api.TNone)), api.ErrKind}, {class(1, wild(nothing, of(-3))), api.ErrKind},
	}
	// The fields that a kind does not use, and the numbers of Args.
	usesSym := []int{api.TClass, api.TParam, api.TMember, api.TThis, api.TLocal, api.TField, api.TBound}
	usesNum := []int{api.TLambda, api.TBound, api.TMatch, api.TVar}
	for _, u := range accepted() {
		if types.Size(u) > 100 {
			continue
		}
		if !slices.Contains(usesSym, u.Kind) {
			l = append(l, refusal{setSym(u, 1), api.ErrForm}, refusal{setSym(u, -1), api.ErrForm})
		}
		if !slices.Contains(usesNum, u.Kind) {
			l = append(l, refusal{setNum(u, 1), api.ErrForm}, refusal{setNum(u, -1), api.ErrForm})
		}
		if u.Kind != api.TRefine {
			l = append(l, refusal{setName(u, "a"), api.ErrForm})
		}
		if len(u.Args) == 0 && u.Kind != api.TClass {
			l = append(l, refusal{with(u, func(t *api.Type) { t.Args = []api.Type{integer} }), api.ErrForm})
		}
	}
	for kind, right := range map[int][]int{
		api.TMember: {1}, api.TField: {1}, api.TArray: {1}, api.TByName: {1}, api.TRepeat: {1}, api.TLambda: {1}, api.TWild: {2}, api.TRefine: {3},
		api.TAnd: {2, 3, 19, 20}, api.TOr: {2, 3, 19, 20}, api.TFun: {1, 2, 12, 13}, api.TApply: {2, 3, 12, 13}, api.TMatch: {3, 5, 7, 39, 41},
	} {
		for _, n := range []int{0, 1, 2, 3, 4, 5, 6, 7, 12, 13, 14, 19, 20, 21, 38, 39, 40, 41, 42, 43, 100} {
			if !slices.Contains(right, n) && !(n > right[0] && n < right[len(right)-1] && (kind != api.TMatch || n%2 == 1)) {
				l = append(l, refusal{of(kind, times(n, integer)...), api.ErrForm})
			}
		}
	}
	for _, k := range []int{-1, 9, 1 << 62, -1 << 63} {
		l = append(l, refusal{class(k), api.ErrRange}, refusal{this(k), api.ErrRange}, refusal{param(k), api.ErrRange}, refusal{member(x, k), api.ErrRange}, refusal{local(k), api.ErrRange}, refusal{field(x, k), api.ErrRange})
	}
	l = append(l, refusal{param(8), api.ErrRange}, refusal{member(x, 2), api.ErrRange}, refusal{local(5), api.ErrRange}, refusal{field(x, 4), api.ErrRange})
	for _, n := range []int{-1, 0, 13, 1 << 62, -1 << 63} {
		l = append(l, refusal{lambda(n, integer), api.ErrRange})
		if n != 0 {
			l = append(l, refusal{match(n, integer, integer, integer), api.ErrRange})
		}
	}
	for _, n := range []int{-1, 100, 1 << 62, -1 << 63} {
		l = append(l, refusal{variable(n), api.ErrRange})
	}
	for _, b := range []api.Type{
		bound(0, 0), lambda(1, bound(0, 1)), lambda(1, bound(0, -1)), lambda(1, bound(1, 0)), lambda(1, bound(-1, 0)), lambda(2, apply(lambda(1, bound(1, 0)), bound(0, 0))), lambda(1, apply(lambda(2, bound(1, 1)), bound(0, 0), bound(0, 0))), lambda(1, bound(0, 1<<62)), lambda(1, bound(0, -1<<63)),
		match(1, bound(0, 0), integer, integer), match(0, integer, bound(0, 0), integer), match(0, integer, integer, bound(0, 0)), match(1, integer, integer, integer, bound(1, 0), integer), match(2, integer, bound(0, 1), integer), lambda(1, match(1, bound(0, 1), integer, integer)), lambda(3, match(1, integer, bound(1, 0), integer)), lambda(3, match(0, integer, integer, bound(0, 2))),
	} {
		l = append(l, refusal{b, api.ErrRange})
	}
	for _, b := range []api.Type{
		class(0, integer), class(1), class(1, integer, integer), class(2), class(2, integer, integer), class(2, integer, integer, integer), class(2, param(3), integer, param(3)), class(2, integer, integer, param(6)), class(2, integer, integer, lambda(2, integer)), class(1, param(3)), class(1, lambda(1, integer)), class(1, wild(lambda(1, integer), anyType)), class(2, integer, integer, wild(nothing, param(3))),
		apply(integer, integer), apply(param(0), integer), apply(param(3), integer, integer), apply(param(6), integer), apply(lambda(1, integer), integer, integer), apply(member(x, 1), integer), apply(param(3), param(3)), apply(param(6), integer, lambda(1, integer)), apply(bound(0, 0), integer), lambda(1, apply(bound(0, 0), integer)),
		lambda(1, param(3)), lambda(1, lambda(1, integer)), match(0, param(3), integer, integer), match(0, integer, param(3), integer), match(0, integer, integer, integer, integer, lambda(1, integer)), refine("t", param(3), integer, integer), refine("t", integer, param(3), integer), refine("t", integer, integer, param(3)),
		and(integer, param(3)), or(param(3), integer), fun(param(3), integer), fun(param(3)), array(member(x, 1)), byName(param(3)), repeat(param(3)), field(param(3), 0), member(member(x, 1), 0),
	} {
		l = append(l, refusal{b, api.ErrArity})
	}
	for _, b := range []api.Type{
		member(integer, 0), member(class(1, integer), 0), member(param(0), 0), member(member(x, 0), 0), field(integer, 0), field(member(x, 0), 0), field(and(x, x), 0), field(x, 2), field(x, 3), local(3), local(4), field(local(3), 0),
		array(byName(integer)), array(repeat(integer)), fun(byName(integer)), fun(integer, byName(integer)), fun(repeat(integer)), fun(integer, repeat(integer)), fun(repeat(integer), integer, integer), fun(repeat(integer), repeat(integer), integer), and(byName(integer), integer), or(integer, repeat(integer)), byName(byName(integer)), byName(repeat(integer)), repeat(repeat(integer)), repeat(byName(integer)), class(1, byName(integer)), class(1, wild(nothing, repeat(integer))), apply(param(3), byName(integer)), lambda(1, byName(integer)), lambda(1, repeat(integer)), match(0, byName(integer), integer, integer), refine("t", byName(integer), integer, integer),
		wild(nothing, anyType), array(wild(nothing, anyType)), fun(wild(nothing, anyType), integer), and(wild(nothing, anyType), integer), class(1, wild(wild(nothing, anyType), anyType)), class(1, array(wild(nothing, anyType))), apply(param(3), wild(nothing, anyType)), apply(wild(nothing, anyType), integer).Args[0], lambda(1, wild(nothing, anyType)),
		refine("", integer, integer, integer), refine("a b", integer, integer, integer), refine("1", integer, integer, integer), refine("a+", integer, integer, integer), refine(strings.Repeat("a", 65), integer, integer, integer),
	} {
		l = append(l, refusal{b, api.ErrInvalid})
	}
	return l
}

// P7.1: each error of Check, at the type itself and further inside.
func TestCheckRefuses(t *testing.T) {
	env := sample()
	for _, r := range refused() {
		if e := types.Check(env, r.t); e != r.want {
			t.Errorf("%s: %v, want %v", show(r.t), e, r.want)
		}
		if oracle := firstError(env, r.t); oracle != r.want {
			t.Errorf("%s: the oracle tells %v, want %v", show(r.t), oracle, r.want)
		}
		for _, u := range []api.Type{fun(integer, array(r.t)), fun(r.t, integer), class(1, r.t), lambda(2, r.t)} {
			if got, want := types.Check(env, u), firstError(env, u); got != want {
				t.Errorf("%s: %v, want %v", show(u), got, want)
			}
		}
	}
}

// P7.1: of several errors that of the first node counts, and of its errors that
// of the first rule.
func TestCheckOrder(t *testing.T) {
	env := sample()
	for i, c := range []struct {
		t    api.Type
		want api.Errno
	}{
		{api.Type{Kind: -1, Sym: 1, Args: []api.Type{of(99)}}, api.ErrKind}, {array(api.Type{Kind: api.TKinds, Name: "a"}), api.ErrKind},
		{setNum(class(99), 1), api.ErrForm}, {setNum(param(99), 1), api.ErrForm}, {setName(lambda(0, param(3)), "a"), api.ErrForm}, {num(api.TLambda, 0), api.ErrForm}, {num(api.TVar, 100, integer), api.ErrForm}, {sym(api.TMember, 99), api.ErrForm}, {fun(), api.ErrForm}, {array(setSym(integer, 1)), api.ErrForm}, {setSym(byName(byName(integer)), 1), api.ErrForm}, {sym(api.TBound, 7, integer), api.ErrForm},
		{lambda(0, param(3)), api.ErrRange}, {member(integer, 99), api.ErrRange}, {field(param(3), 99), api.ErrRange}, {match(-1, param(3), integer, integer), api.ErrRange}, {class(99, param(3), wild(integer, integer)), api.ErrRange},
		{member(param(3), 0), api.ErrArity}, {class(1, byName(integer), integer), api.ErrArity}, {refine("1", param(3), integer, integer), api.ErrArity}, {array(byName(param(3))), api.ErrArity}, {wild(param(3), of(-1)), api.ErrArity}, {apply(param(99), integer), api.ErrArity}, {fun(lambda(-1, integer), integer), api.ErrArity}, {apply(lambda(13, integer), times(12, integer)...), api.ErrArity},
		{wild(of(-1), integer), api.ErrInvalid}, {member(integer, 0), api.ErrInvalid}, {refine("1", of(-1), integer, integer), api.ErrInvalid}, {member(of(-1), 0), api.ErrInvalid}, {field(setSym(local(99), 99), 2), api.ErrInvalid}, {field(local(99), 0), api.ErrRange},
		{fun(array(of(-1)), param(99)), api.ErrKind}, {fun(param(99), of(-1)), api.ErrRange}, {fun(array(param(99)), setSym(integer, 1)), api.ErrRange}, {fun(wild(integer, of(-1)), param(99)), api.ErrInvalid}, {fun(array(wild(integer, integer)), of(-1)), api.ErrInvalid}, {fun(of(-1), wild(integer, integer)), api.ErrKind},
		{fun(fun(param(3)), integer), api.ErrArity}, {fun(fun(param(3)), of(-1)), api.ErrArity}, {fun(fun(param(99)), param(3)), api.ErrArity}, {array(fun(param(99), array(param(3)))), api.ErrRange}, {lambda(1, apply(param(6), bound(1, 0), bound(0, 1))), api.ErrRange},
		{chain(65, wide(3000)), api.ErrLimit}, {fun(chain(65, integer), wide(1900)), api.ErrDepth},
	} {
		if e := types.Check(env, c.t); e != c.want {
			t.Errorf("%d: %s: %v, want %v", i, show(c.t), e, c.want)
		}
		if oracle := firstError(env, c.t); oracle != c.want {
			t.Errorf("%d: %s: the oracle tells %v, want %v", i, show(c.t), oracle, c.want)
		}
	}
}

// P7.1: Check in programs and with locals that are wrong or missing.
func TestCheckEnv(t *testing.T) {
	for _, u := range accepted() {
		if got, want := types.Check(api.Env{}, u), firstError(api.Env{}, u); got != want {
			t.Errorf("%s without a program: %v, want %v", show(u), got, want)
		}
		if got, want := types.Check(api.Env{P: sample().P}, u), firstError(api.Env{P: sample().P}, u); got != want {
			t.Errorf("%s without locals: %v, want %v", show(u), got, want)
		}
	}
	env := sample()
	env.P.Classes[1].TParams = []int{8}
	env.P.Classes[0].TParams = []int{-1}
	env.P.Classes[2].TParams = []int{4, 4, 8}
	env.P.TParams[4].Arity = -1
	for i, c := range []struct {
		t    api.Type
		want api.Errno
	}{
		{class(1, integer), api.ErrRange}, {class(1), api.ErrRange}, {class(0), api.ErrRange}, {class(2, integer, integer, integer), api.ErrRange}, {this(1), api.OK}, {this(0), api.OK},
		{class(4, integer), api.ErrArity}, {class(4, wild(integer, integer)), api.OK}, {class(4, lambda(-1, integer)), api.ErrRange}, {class(4, param(4)), api.OK}, {array(param(4)), api.ErrArity},
	} {
		if e := types.Check(env, c.t); e != c.want {
			t.Errorf("%d: %s: %v, want %v", i, show(c.t), e, c.want)
		}
		if oracle := firstError(env, c.t); oracle != c.want {
			t.Errorf("%d: %s: the oracle tells %v, want %v", i, show(c.t), oracle, c.want)
		}
	}
	for _, flags := range []int{api.Var, api.Lazy, api.Var | api.Lazy, -1, -1 << 63, api.Var | api.Final} {
		env := sample()
		env.P.Fields[0].Flags = flags
		env.Locals = slices.Clone(env.Locals)
		env.Locals[0].Flags = flags
		want := api.ErrInvalid
		if flags == -1<<63 {
			want = api.OK
		}
		for _, u := range []api.Type{local(0), field(this(0), 0)} {
			if e := types.Check(env, u); e != want {
				t.Errorf("%s with the flags %d: %v, want %v", show(u), flags, e, want)
			}
		}
	}
	env = sample()
	env.P.Fields[0].Flags = ^(api.Var | api.Lazy)
	if e := types.Check(env, field(this(0), 0)); e != api.OK {
		t.Errorf("a field with all flags but Var and Lazy: %v", e)
	}
}
