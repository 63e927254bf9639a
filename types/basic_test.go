package types_test

import (
	"math/rand"
	"slices"
	"testing"

	"newel/api"
	"newel/types"
)

// P7.1: Size and Depth, of any types.
func TestSizeAndDepth(t *testing.T) {
	for _, c := range []struct {
		name        string
		t           api.Type
		size, depth int
	}{
		{"no type", api.Type{}, 1, 1}, {"a leaf", integer, 1, 1}, {"an empty list", api.Type{Kind: api.TClass, Args: []api.Type{}}, 1, 1},
		{"Args", fun(integer, array(text)), 4, 3}, {"the deepest is the first", fun(array(array(unit)), unit), 5, 4}, {"raw kinds", of(-1, of(99), of(0)), 3, 2},
		{"64 levels", chain(64, integer), 64, 64}, {"65 levels", chain(65, integer), 65, 65}, {"66 levels", chain(66, integer), 66, 65}, {"30000 levels", chain(30000, integer), 2001, 65},
		{"2000 nodes", wide(2000), 2000, 3}, {"2001 nodes", wide(2001), 2001, 3}, {"9000 nodes", wide(9000), 2001, 3},
		{"deep behind many", of(api.TFun, wide(5000), chain(40, integer)), 2001, 41}, {"deep in front of many", of(api.TFun, chain(40, integer), wide(5000)), 2001, 41},
		{"doubled", doubled(10, integer), 1023, 10}, {"doubled to the limit", doubled(11, integer), 2001, 11}, {"doubled beyond", doubled(60, integer), 2001, 60}, {"doubled far", doubled(200, integer), 2001, 65},
		{"a ring", ring(1), 2001, 65}, {"a ring of three", ring(3), 2001, 65},
	} {
		if size, depth := types.Size(c.t), types.Depth(c.t); size != c.size || depth != c.depth {
			t.Errorf("%s: %d nodes, %d levels; want %d, %d", c.name, size, depth, c.size, c.depth)
		}
	}
}

// P7.1: Arity, also of symbols that do not exist.
func TestArity(t *testing.T) {
	env := sample()
	env.P.TParams[4].Arity = -3
	for i, c := range []struct {
		t    api.Type
		want int
	}{
		{lambda(1, integer), 1}, {lambda(12, integer), 12}, {num(api.TLambda, -4), -4}, {lambda(0, integer), 0}, {num(api.TLambda, 77), 77},
		{param(0), 0}, {param(3), 1}, {param(6), 2}, {param(4), -3}, {param(8), 0}, {param(-1), 0}, {sym(api.TParam, 6, integer), 2}, {param(1 << 62), 0}, {param(-1 << 63), 0},
		{member(local(0), 0), 0}, {member(local(0), 1), 2}, {sym(api.TMember, 1), 2}, {member(local(0), 2), 0}, {member(local(0), -1), 0}, {member(local(0), -1<<63), 0},
		{class(2), 0}, {class(1, lambda(2, integer)), 0}, {this(1), 0}, {bound(0, 0), 0}, {apply(param(3), integer), 0}, {match(2, integer, integer, integer), 0},
		{variable(5), 0}, {num(api.TBound, 3), 0}, {api.Type{Kind: -1, Num: 5}, 0}, {api.Type{Kind: api.TKinds, Num: 5, Sym: 6}, 0}, {api.Type{}, 0}, {wild(lambda(1, integer), lambda(1, integer)), 0}, {sym(api.TField, 6), 0}, {local(3), 0},
	} {
		if got := types.Arity(env, c.t); got != c.want {
			t.Errorf("%d: the arity of %s is %d, want %d", i, show(c.t), got, c.want)
		}
	}
	for _, u := range []api.Type{param(0), member(local(0), 0), lambda(0, integer)} {
		if got := types.Arity(api.Env{}, u); got != 0 {
			t.Errorf("the arity of %s without a program is %d", show(u), got)
		}
	}
}

// ordered are types in increasing order.
func ordered() []api.Type {
	return []api.Type{
		{Kind: -1 << 63}, of(-1), {Kind: api.TNone}, anyType, nothing, null, unit,
		{Kind: api.TClass, Sym: -2, Name: "b"}, {Kind: api.TClass, Sym: -1, Name: "a"}, {Kind: api.TClass, Sym: -1, Name: "a", Args: []api.Type{anyType}},
		{Kind: api.TClass, Num: -1, Args: []api.Type{unit}}, class(0), class(0, anyType), class(0, text), class(0, class(0, text)), class(0, class(1)), class(0, anyType, anyType), class(0, anyType, text), class(0, unit, anyType),
		{Kind: api.TClass, Num: 1}, {Kind: api.TClass, Name: "A", Num: 7}, {Kind: api.TClass, Name: "A", Num: 8}, {Kind: api.TClass, Name: "AB", Num: -8}, {Kind: api.TClass, Name: "a", Num: -9}, {Kind: api.TClass, Name: "\xff"}, class(1), class(1 << 62),
		param(0), param(1), variable(-1), variable(0), variable(100), {Kind: api.TKinds}, {Kind: 1 << 62},
	}
}

// P7.1: Compare is by Kind, Sym, Name, Num, the number of Args, and the Args.
func TestCompare(t *testing.T) {
	l := ordered()
	for i := range l {
		for k := range l {
			want := 0
			if i < k {
				want = -1
			} else if i > k {
				want = 1
			}
			if got := types.Compare(l[i], clone(l[k])); got != want {
				t.Errorf("Compare(%s, %s) = %d, want %d", show(l[i]), show(l[k]), got, want)
			}
			if got := types.Equal(l[i], clone(l[k])); got != (want == 0) {
				t.Errorf("Equal(%s, %s) = %t", show(l[i]), show(l[k]), got)
			}
		}
	}
	if types.Compare(api.Type{Kind: api.TClass, Args: []api.Type{}}, class(0)) != 0 {
		t.Errorf("an empty list is not a nil list")
	}
}

// P7.1: Compare looks at api.MaxNest levels, also of lists that share memory.
func TestCompareDeep(t *testing.T) {
	few := api.MaxNest - 1
	for i, c := range []struct {
		a, b api.Type
		want int
	}{
		{chain(64, integer), chain(64, long), -1}, {chain(65, integer), chain(65, long), 0}, {chain(64, integer), chain(64, array(integer)), -1}, {chain(65, integer), chain(90000, long), 0}, {chain(64, integer), chain(65, integer), -1},
		{chain(64, class(0)), chain(64, class(0, text)), -1}, {chain(64, class(0, text)), chain(64, class(0, unit)), 0}, {chain(63, class(0, text)), chain(63, class(0, unit)), 1}, {chain(65, class(0)), chain(65, class(0, text)), 0},
		{doubled(few, integer), doubled(few, integer), 0}, {doubled(few, integer), doubled(few, long), -1}, {doubled(64, text), doubled(64, long), 1}, {doubled(65, text), doubled(65, long), 0}, {doubled(300, text), doubled(400, long), 0},
		{fun(doubled(60, text), text), fun(doubled(60, text), long), 1}, {fun(doubled(40, text), doubled(40, text)), fun(doubled(40, text), doubled(40, long)), 1},
		{fun(doubled(64, text), unit), fun(doubled(64, long), unit), 0}, {fun(doubled(64, text), chain(63, text)), fun(doubled(64, long), chain(63, long)), 1},
		{fun(array(doubled(64, text)), doubled(63, text)), fun(array(doubled(64, long)), doubled(63, long)), 1},
		{ring(1), ring(1), 0}, {ring(1), ring(3), 0}, {ring(1), chain(1000, text), 0}, {ring(2), chain(64, text), 1}, {wide(9000), wide(9000), 0}, {wide(9000), wide(9001), -1},
	} {
		if got := types.Compare(c.a, c.b); got != c.want {
			t.Errorf("%d: %d, want %d", i, got, c.want)
		}
		if got := types.Compare(c.b, c.a); got != -c.want {
			t.Errorf("%d, the other way: %d, want %d", i, got, -c.want)
		}
		if types.Equal(c.a, c.b) != (c.want == 0) || !types.Equal(c.a, c.a) || !types.Equal(c.b, c.b) {
			t.Errorf("%d: Equal", i)
		}
	}
}

// P7.1, P7.5: Compare is a total order, that of the fields of random types.
func TestCompareRandom(t *testing.T) {
	r := rand.New(rand.NewSource(1))
	for range 3000 {
		a := rawType(r, 3)
		b := changed(r, a)
		c := changed(r, b)
		for _, pair := range [][2]api.Type{{a, b}, {b, c}, {a, c}} {
			if got, want := types.Compare(pair[0], pair[1]), slices.Compare(flatten(pair[0]), flatten(pair[1])); got != want {
				t.Fatalf("Compare(%s, %s) = %d, want %d", show(pair[0]), show(pair[1]), got, want)
			}
			if types.Equal(pair[0], pair[1]) != same(pair[0], pair[1]) {
				t.Fatalf("Equal(%s, %s)", show(pair[0]), show(pair[1]))
			}
		}
		l := []api.Type{c, a, b}
		slices.SortFunc(l, types.Compare)
		if types.Compare(l[0], l[1]) > 0 || types.Compare(l[1], l[2]) > 0 || types.Compare(l[0], l[2]) > 0 {
			t.Fatalf("no order: %s, %s, %s", show(l[0]), show(l[1]), show(l[2]))
		}
	}
}

// flatten writes a type as a list of numbers that is in the order of types: the
// nodes in preorder, the number of Args ahead of the Args.
func flatten(t api.Type) []int {
	l := []int{t.Kind, t.Sym}
	for _, b := range []byte(t.Name) {
		l = append(l, 1+int(b))
	}
	l = append(l, 0, t.Num, len(t.Args))
	for _, a := range t.Args {
		l = append(l, flatten(a)...)
	}
	return l
}

// P7.1: Free tells whether a TBound belongs to no binder.
func TestFree(t *testing.T) {
	for i, c := range []struct {
		t    api.Type
		want bool
	}{
		{integer, false}, {bound(0, 0), true}, {array(bound(0, 3)), true}, {lambda(1, bound(0, 0)), false}, {lambda(1, bound(5, 0)), false}, {lambda(1, bound(-5, 0)), false},
		{lambda(1, bound(0, 1)), true}, {lambda(1, bound(0, -1)), true}, {bound(0, -1), true}, {lambda(1, lambda(1, bound(0, 1))), false}, {lambda(1, lambda(1, bound(0, 2))), true}, {lambda(1, array(lambda(1, array(bound(0, 1))))), false},
		{fun(lambda(1, bound(0, 0)), bound(0, 0)), true}, {lambda(-1, bound(0, 0)), false}, {num(api.TLambda, 1, integer, bound(0, 0)), true},
		{match(1, integer, bound(0, 0), integer), false}, {match(1, integer, integer, bound(0, 0)), false}, {match(0, integer, integer, bound(0, 0)), false}, {match(1, bound(0, 0), integer, integer), true},
		{match(1, integer, bound(0, 1), integer), true}, {match(1, integer, integer, integer, bound(0, 0), integer), false}, {match(1, integer, integer, integer, integer, bound(0, 0)), false}, {match(1, integer, integer, integer, integer, bound(0, 1)), true}, {match(1, integer, bound(0, 0)), false},
		{lambda(1, match(1, bound(0, 0), bound(0, 1), bound(0, 1))), false}, {lambda(1, match(1, bound(0, 1), bound(0, 1), bound(0, 1))), true}, {lambda(1, match(1, integer, integer, bound(0, 2))), true},
		{of(99, bound(0, 0)), true}, {sym(api.TBound, 0, integer), true}, {lambda(1, sym(api.TBound, 0, bound(0, 1))), true}, {lambda(1, bound(0, 1<<62)), true}, {lambda(1, bound(0, -1<<63)), true},
		{chain(64, integer), false}, {chain(65, integer), true}, {wide(2000), false}, {wide(2001), true}, {ring(1), true}, {doubled(100, integer), true},
	} {
		if got := types.Free(c.t); got != c.want {
			t.Errorf("%d: Free is %t", i, got)
		}
	}
}

// P7.1: Vars returns the numbers of the type variables.
func TestVars(t *testing.T) {
	for i, c := range []struct {
		t    api.Type
		want []int
	}{
		{integer, nil}, {variable(7), []int{7}}, {fun(variable(9), variable(2), array(variable(9)), variable(0), bound(5, 0), lambda(4, variable(3))), []int{0, 2, 3, 9}},
		{of(99, variable(-1), variable(1<<62), variable(1000), variable(-1<<63)), []int{-1 << 63, -1, 1000, 1 << 62}}, {num(api.TVar, 3, num(api.TVar, 2, variable(1))), []int{1, 2, 3}},
		{chain(64, variable(1)), []int{1}}, {chain(65, variable(1)), nil}, {class(0, append(wide(1998).Args, variable(8))...), []int{8}}, {class(0, append(wide(2000).Args, variable(8))...), nil}, {class(0, append([]api.Type{variable(1)}, wide(2000).Args...)...), nil},
	} {
		if got := types.Vars(c.t); !slices.Equal(got, c.want) {
			t.Errorf("%d: %v, want %v", i, got, c.want)
		}
	}
}
