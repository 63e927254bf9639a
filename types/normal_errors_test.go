package types_test

import (
	"testing"

	"newel/api"
	"newel/types"
)

// steps returns a type whose normal form, which is small, takes a number of
// steps: TAnds that are made of one with a TOr, or type functions.
func steps(n int) api.Type {
	t := class(0)
	for ; n >= 20; n -= 20 {
		var l []api.Type
		for k := range 20 {
			l = append(l, class(k))
		}
		t.Args = append(t.Args, and(integer, or(l...)))
	}
	for range n {
		t.Args = append(t.Args, apply(lambda(1, integer), integer))
	}
	return t
}

// P7.3: the errors of Normal.
func TestNormalErrors(t *testing.T) {
	p := param(0)
	tooDeep := apply(lambda(1, chain(40, bound(0, 0))), chain(40, integer))
	tooBig := apply(lambda(1, fun(bound(0, 0), bound(0, 0))), full(1000))
	product := and(or(params(20, 0)...), or(params(20, 20)...))
	omega := lambda(1, apply(bound(0, 0), bound(0, 0)))
	var copies []api.Type
	for range 13 {
		copies = append(copies, bound(0, 0))
	}
	large, small := apply(lambda(1, fun(copies...)), full(150)), full(47)
	grows := lambda(1, fun(bound(0, 0), apply(bound(0, 0), bound(0, 0))))
	for i, c := range []struct {
		t    api.Type
		want api.Errno
	}{
		{wide(2001), api.ErrLimit}, {chain(65, integer), api.ErrDepth}, {chain(65, wide(2000)), api.ErrLimit}, {ring(1), api.ErrLimit}, {chain(64, integer), api.OK}, {full(2000), api.OK}, {wide(2000), api.OK},
		{steps(1000), api.OK}, {steps(1001), api.ErrFuel}, {class(0, append(steps(980).Args, steps(20).Args...)...), api.OK}, {class(0, append(steps(981).Args, steps(20).Args...)...), api.ErrFuel}, {class(0, append(steps(20).Args, steps(981).Args...)...), api.ErrFuel}, {class(0, append(steps(21).Args, steps(960).Args...)...), api.OK},
		{and(pairs(7)...), api.OK}, {and(pairs(8)...), api.ErrLimit}, {and(times(8, or(integer, text))...), api.OK}, {and(times(9, or(integer, text))...), api.ErrFuel}, {apply(omega, omega), api.ErrFuel}, {apply(grows, grows), api.ErrFuel}, {array(apply(omega, omega)), api.ErrFuel},
		{tooDeep, api.ErrDepth}, {tooBig, api.ErrLimit}, {apply(lambda(1, fun(bound(0, 0), unit)), chain(63, integer)), api.OK},
		{product, api.OK}, {and(product, param(40)), api.OK}, {and(product, param(40), param(41)), api.ErrLimit}, {array(and(product, param(40))), api.OK},
		{or(anyType, tooDeep), api.ErrDepth}, {or(anyType, tooBig), api.ErrLimit}, {and(nothing, tooDeep), api.ErrDepth}, {and(nothing, and(product, param(40), param(41))), api.ErrLimit}, {apply(lambda(1, integer), tooBig), api.ErrLimit}, {apply(tooBig, tooDeep), api.ErrLimit}, {apply(lambda(2, and(bound(0, 0), bound(1, 0))), large, large), api.ErrLimit}, {and(large, large), api.OK}, {apply(lambda(2, and(bound(0, 0), bound(1, 0))), full(997), full(997)), api.OK}, {apply(lambda(1, bound(0, 0)), full(1990)), api.OK}, {apply(apply(lambda(1, lambda(1, bound(0, 1))), large), large), api.OK},
		{large, api.OK}, {or(large, small), api.OK}, {and(small, or(large, small)), api.OK}, {and(small, p, or(small, large)), api.OK}, {and(small, p, param(1), or(small, large)), api.ErrLimit}, {and(small, p, param(1), or(large, small)), api.ErrLimit},
		{and(chain(62, p), or(param(1), param(2))), api.OK}, {and(chain(63, p), or(param(1), param(2))), api.ErrDepth}, {array(and(chain(62, p), or(param(1), param(2)))), api.ErrDepth}, {and(chain(63, p), or(integer, text)), api.OK},
		{fun(tooDeep, tooBig), api.ErrDepth}, {fun(tooBig, tooDeep), api.ErrLimit}, {fun(tooDeep, apply(omega, omega)), api.ErrDepth}, {fun(apply(omega, omega), tooDeep), api.ErrFuel}, {fun(apply(omega, omega), tooBig), api.ErrFuel}, {fun(array(tooBig), apply(omega, omega)), api.ErrLimit}, {apply(apply(omega, omega), tooBig), api.ErrFuel},
		{class(0, full(1900), and(p, or(params(20, 1)...))), api.OK}, {class(0, full(1938), and(p, or(params(20, 1)...))), api.OK}, {class(0, full(1939), and(p, or(params(20, 1)...))), api.ErrLimit},
	} {
		got, e := types.Normal(c.t)
		if e != c.want || e != api.OK && !same(got, api.Type{}) {
			t.Errorf("%d: %v, want %v", i, e, c.want)
		}
	}
}

// pairs returns TOrs of two type parameters each.
func pairs(n int) []api.Type {
	var l []api.Type
	for k := range n {
		l = append(l, or(param(2*k), param(2*k+1)))
	}
	return l
}
