package types_test

import (
	"testing"

	"newel/api"
	"newel/types"
)

// form is a type and its normal form.
type form struct{ t, want api.Type }

func params(n, from int) []api.Type {
	var l []api.Type
	for k := range n {
		l = append(l, param(from+k))
	}
	return l
}

// P7.3: type functions that are applied to arguments (rule 1).
func TestNormalApply(t *testing.T) {
	twice := lambda(1, fun(bound(0, 0), bound(0, 0)))
	checkForms(t, []form{
		{apply(lambda(1, array(bound(0, 0))), integer), array(integer)}, {apply(lambda(2, fun(bound(1, 0), bound(0, 0))), integer, text), fun(text, integer)}, {apply(twice, apply(twice, integer)), fun(fun(integer, integer), fun(integer, integer))},
		{apply(lambda(1, and(bound(0, 0), integer)), text), nothing}, {apply(lambda(1, and(bound(0, 0), param(0))), or(param(1), param(2))), or(and(param(0), param(1)), and(param(0), param(2)))}, {apply(lambda(1, or(bound(0, 0), anyType)), integer), anyType},
		{apply(lambda(1, apply(bound(0, 0), integer)), lambda(1, array(bound(0, 0)))), array(integer)}, {apply(apply(lambda(1, bound(0, 0)), lambda(1, array(bound(0, 0)))), integer), array(integer)}, {apply(apply(lambda(1, lambda(1, fun(bound(0, 0), bound(0, 1)))), integer), text), fun(text, integer)},
		{lambda(1, apply(lambda(1, fun(bound(0, 0), bound(0, 1))), array(bound(0, 0)))), lambda(1, fun(array(bound(0, 0)), bound(0, 0)))}, {lambda(1, and(bound(0, 0), anyType)), lambda(1, bound(0, 0))}, {apply(lambda(1, wild(bound(0, 0), integer)), integer), integer},
		{apply(param(3), integer), apply(param(3), integer)}, {apply(param(3), and(integer, integer)), apply(param(3), integer)}, {apply(lambda(1, integer), integer, integer), apply(lambda(1, integer), integer, integer)}, {apply(lambda(2, integer), integer), apply(lambda(2, integer), integer)}, {apply(lambda(1, apply(lambda(1, bound(0, 0)), unit)), integer, integer), apply(lambda(1, unit), integer, integer)},
		{apply(num(api.TLambda, 1, or(integer, integer), text), text), apply(num(api.TLambda, 1, integer, text), text)}, {apply(num(api.TLambda, 1), text), apply(num(api.TLambda, 1), text)}, {apply(or(lambda(1, integer), nothing), text), integer}, {apply(and(lambda(1, bound(0, 0)), anyType), text), text}, {apply(setSym(setName(lambda(1, array(bound(0, 0))), "a"), 3), text), array(text)},
		{match(1, apply(lambda(1, array(bound(0, 0))), integer), and(bound(0, 0), anyType), or(bound(0, 0), bound(0, 0))), match(1, array(integer), bound(0, 0), bound(0, 0))},
	})
}

// P7.3: intersections (rule 2).
func TestNormalAnd(t *testing.T) {
	a, b, p, q, r := class(0), class(1, integer), param(0), param(1), this(0)
	checkForms(t, []form{
		{and(p, q), and(p, q)}, {and(q, p), and(p, q)}, {and(q, p, q, p), and(p, q)}, {and(p, p), p}, {and(and(q, r), p), and(p, q, r)}, {and(p, and(q, and(p, r))), and(p, q, r)}, {and(p, anyType), p}, {and(anyType, anyType), anyType}, {and(anyType, and(anyType, anyType)), anyType}, {and(p, and(anyType, anyType), q), and(p, q)},
		{and(nothing, p), nothing}, {and(p, nothing), nothing}, {and(nothing, nothing), nothing}, {and(anyType, nothing), nothing}, {and(integer, integer), integer}, {and(integer, p), and(integer, p)}, {and(p, integer, integer), and(integer, p)}, {and(integer, long), nothing}, {and(unit, of(api.TBoolean)), nothing}, {and(of(api.TChar), of(api.TBoolean)), nothing}, {and(integer, text), nothing}, {and(a, integer), nothing}, {and(p, fun(unit), q, of(api.TChar)), nothing}, {and(array(unit), unit), nothing}, {and(integer, null), nothing}, {and(null, unit), nothing}, {and(long, p, null), nothing}, {and(integer, anyType), integer}, {and(integer, this(0)), and(integer, this(0))},
		{and(null, null), null}, {and(null, text), null}, {and(a, null), null}, {and(null, array(integer)), null}, {and(fun(unit), null), null}, {and(null, p), and(null, p)}, {and(p, null, q, null), and(null, p, q)}, {and(text, p, null, a), and(null, p)}, {and(text, a), null}, {and(a, array(unit)), null}, {and(array(unit), p, fun(unit)), and(null, p)}, {and(fun(unit), text), null}, {and(text, text), text}, {and(a, b), and(a, b)}, {and(b, a), and(a, b)}, {and(array(integer), array(text)), and(array(integer), array(text))}, {and(fun(unit), fun(integer, unit)), and(fun(unit), fun(integer, unit))}, {and(class(1, text), class(1, integer)), and(class(1, integer), class(1, text))}, {and(text, a, integer), nothing}, {and(text, anyType, a), null},
		{and(p, or(q, r)), or(and(p, q), and(p, r))}, {and(or(q, r), p), or(and(p, q), and(p, r))}, {and(or(p, q), or(p, r)), or(p, and(q, r))}, {and(integer, or(integer, text)), integer}, {and(nothing, or(p, q)), nothing}, {and(or(integer, text), or(long, null)), null}, {and(text, or(a, null)), null}, {and(or(p, q), or(a, b), r), or(and(a, p, r), and(a, q, r), and(b, p, r), and(b, q, r))}, {and(p, or(and(q, r), a)), or(and(a, p), and(p, q, r))}, {and(p, or(p, q)), p}, {and(or(p, q), or(p, q)), or(p, q)}, {and(and(p, or(q, r)), a), or(and(a, p, q), and(a, p, r))},
		{and(lambda(1, integer), param(3)), and(param(3), lambda(1, integer))}, {and(byName(integer), repeat(text), integer), and(integer, byName(integer), repeat(text))}, {and(wild(p, p), q), and(p, q)}, {and(bound(1, 0), bound(0, 0)), and(bound(0, 0), bound(1, 0))}, {and(variable(2), variable(1)), and(variable(1), variable(2))}, {and(of(99), of(-1)), and(of(-1), of(99))}, {and(integer, of(99)), and(integer, of(99))}, {and(api.Type{}, integer), and(api.Type{}, integer)},
		{array(and(p, p)), array(p)}, {array(and(integer, text)), array(nothing)}, {class(1, and(text, a)), class(1, null)},
	})
}

// P7.3: unions (rule 3) and wildcards (rule 4).
func TestNormalOr(t *testing.T) {
	a, b, p, q, r := class(0), class(1, integer), param(0), param(1), this(0)
	checkForms(t, []form{
		{or(p, q), or(p, q)}, {or(q, p), or(p, q)}, {or(q, p, q), or(p, q)}, {or(p, p), p}, {or(or(q, r), p), or(p, q, r)}, {or(p, or(q, or(p, r))), or(p, q, r)}, {or(p, nothing), p}, {or(nothing, nothing), nothing}, {or(p, anyType), anyType}, {or(or(p, anyType), q), anyType}, {or(nothing, anyType), anyType}, {or(integer, text), or(integer, text)},
		{or(null, text), text}, {or(null, a), a}, {or(array(unit), null), array(unit)}, {or(fun(unit), null), fun(unit)}, {or(null, integer), or(null, integer)}, {or(null, p), or(null, p)}, {or(null, p, text), or(text, p)}, {or(null, null), null}, {or(null, nothing), null}, {or(null, and(a, b)), and(a, b)}, {or(null, and(a, p)), or(null, and(a, p))}, {or(and(null, p), p), p}, {or(and(null, p), a), a}, {or(and(null, p), and(a, p)), and(a, p)}, {or(and(null, p), and(a, q)), or(and(null, p), and(a, q))}, {or(and(null, p), and(a, b, p)), and(a, b, p)}, {or(and(null, p), null), null}, {or(and(null, p, q), and(null, p)), and(null, p)}, {or(and(null, p, q), and(text, p)), and(text, p)}, {or(and(null, p), and(text, p, q)), or(and(null, p), and(text, p, q))},
		{or(p, and(p, q)), p}, {or(and(p, q), p), p}, {or(and(p, q), and(p, q, r)), and(p, q)}, {or(and(p, q, r), and(r, p)), and(p, r)}, {or(and(p, q), and(p, r)), or(and(p, q), and(p, r))}, {or(and(p, q), r), or(r, and(p, q))}, {or(and(p, q), q, a), or(a, q)}, {or(and(p, q), or(and(q, r), q)), q}, {or(and(integer, p), integer), integer}, {or(and(integer, long), p), p}, {or(array(and(p, q)), array(p)), or(array(p), array(and(p, q)))},
		{or(text, and(text, a)), text}, {or(and(text, a), p), or(null, p)}, {or(wild(p, p), p), p}, {or(lambda(1, integer), param(3)), or(param(3), lambda(1, integer))}, {or(and(lambda(1, integer), param(3)), param(3)), param(3)},
		{wild(p, p), p}, {wild(p, q), wild(p, q)}, {wild(and(p, q), and(q, p)), and(p, q)}, {class(1, wild(integer, or(integer, nothing))), class(1, integer)}, {class(1, wild(and(integer, text), or(integer, anyType))), class(1, wild(nothing, anyType))}, {wild(wild(p, p), p), p}, {class(2, wild(p, p), p, wild(lambda(1, integer), lambda(1, or(integer, integer)))), class(2, p, p, lambda(1, integer))},
		{refine("t", or(p, p), and(p, p), wild(p, p)), refine("t", p, p, p)}, {fun(byName(or(p, p)), repeat(or(q, q)), or(r, r)), fun(byName(p), repeat(q), r)}, {field(or(r, r), 0), field(r, 0)}, {member(and(r, anyType), 1), member(r, 1)},
	})
}

// P7.3: what has another number of Args than Check permits is taken as it is.
func TestNormalRaw(t *testing.T) {
	p, q, r := param(0), param(1), this(0)
	pp := and(p, p)
	many := append(params(10, 11), params(11, 0)...)
	manyAnd, manyOr := and(many...), or(many...)
	sorted := params(21, 0)
	checkForms(t, []form{
		{and(), and()}, {or(), or()}, {and(pp), and(p)}, {or(pp), or(p)}, {manyAnd, manyAnd}, {manyOr, manyOr}, {and(times(21, pp)...), and(times(21, p)...)}, {or(append(many, anyType)...), or(append(many, anyType)...)}, {and(append(many, or(p, p))...), and(append(many, p)...)},
		{of(api.TWild, pp), of(api.TWild, p)}, {of(api.TWild, pp, p, p), of(api.TWild, p, p, p)}, {of(api.TApply, lambda(0, integer)), of(api.TApply, lambda(0, integer))}, {apply(lambda(13, pp), times(13, pp)...), apply(lambda(13, p), times(13, p)...)}, {of(api.TApply), of(api.TApply)}, {apply(lambda(12, pp), times(12, pp)...), p},
		{of(-1, pp), of(-1, p)}, {of(99, pp, or(integer, integer)), of(99, p, integer)}, {api.Type{}, api.Type{}}, {sym(api.TInt, 0, pp), of(api.TInt, p)}, {api.Type{Kind: api.TLong, Sym: 1, Name: "a", Num: 2}, api.Type{Kind: api.TLong, Sym: 1, Name: "a", Num: 2}}, {num(api.TMatch, 1, pp, pp), num(api.TMatch, 1, p, p)}, {num(api.TLambda, 1, pp, pp), num(api.TLambda, 1, p, p)}, {of(api.TArray, pp, pp), of(api.TArray, p, p)}, {fun(times(15, pp)...), fun(times(15, p)...)},
		{and(and(p), q), and(p, q)}, {and(and(and(q)), and(), p), and(p, q)}, {and(and(), and()), anyType}, {and(or(p), q), and(p, q)}, {and(or(), p), nothing}, {and(or(p), or()), nothing}, {and(or(or(p, q), nothing), r), or(and(p, r), and(q, r))}, {or(or(p), q), or(p, q)}, {or(or(or(q)), or(), p), or(p, q)}, {or(or(), or()), nothing}, {or(and(), p), and()}, {and(manyAnd, p), and(sorted...)}, {or(manyOr, p), or(sorted...)}, {or(and(p), q), or(q, and(p))},
		{and(manyAnd, param(21)), and(params(22, 0)...)}, {and(manyOr, p), p}, {or(manyAnd, p), p}, {and(and(params(15, 10)...), and(params(10, 0)...)), and(params(25, 0)...)}, {or(or(params(15, 10)...), or(params(10, 0)...)), or(params(25, 0)...)}, {and(and(params(15, 10)...), or(r, this(1)), and(params(10, 0)...)), or(and(append(params(25, 0), r)...), and(append(params(25, 0), this(1))...))},
	})
}

func checkForms(t *testing.T, l []form) {
	t.Helper()
	for _, f := range l {
		u := clone(f.t)
		got, e := types.Normal(u)
		if e != api.OK || !same(got, f.want) {
			t.Errorf("%s: %s, %v, want %s", show(f.t), show(got), e, show(f.want))
		}
		if again, e := types.Normal(got); e != api.OK || !same(again, got) {
			t.Errorf("again %s: %s, %v, want %s", show(f.t), show(again), e, show(got))
		}
		if !same(u, f.t) || !spared(u) {
			t.Errorf("%s became %s", show(f.t), show(u))
		}
	}
}
