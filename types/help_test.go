package types_test

import (
	"slices"
	"strconv"
	"strings"
	"testing"

	"newel/api"
	"newel/types"
)

// Types.

func of(kind int, args ...api.Type) api.Type {
	return api.Type{Kind: kind, Args: args}
}

func sym(kind, sym int, args ...api.Type) api.Type {
	return api.Type{Kind: kind, Sym: sym, Args: args}
}

func num(kind, num int, args ...api.Type) api.Type {
	return api.Type{Kind: kind, Num: num, Args: args}
}

func class(c int, args ...api.Type) api.Type { return sym(api.TClass, c, args...) }
func param(k int) api.Type                   { return sym(api.TParam, k) }
func this(c int) api.Type                    { return sym(api.TThis, c) }
func local(k int) api.Type                   { return sym(api.TLocal, k) }
func field(prefix api.Type, k int) api.Type  { return sym(api.TField, k, prefix) }
func member(prefix api.Type, k int) api.Type { return sym(api.TMember, k, prefix) }
func and(args ...api.Type) api.Type          { return of(api.TAnd, args...) }
func or(args ...api.Type) api.Type           { return of(api.TOr, args...) }
func fun(args ...api.Type) api.Type          { return of(api.TFun, args...) }
func array(t api.Type) api.Type              { return of(api.TArray, t) }
func byName(t api.Type) api.Type             { return of(api.TByName, t) }
func repeat(t api.Type) api.Type             { return of(api.TRepeat, t) }
func lambda(n int, body api.Type) api.Type   { return num(api.TLambda, n, body) }
func apply(f api.Type, args ...api.Type) api.Type {
	return of(api.TApply, append([]api.Type{f}, args...)...)
}
func match(n int, t api.Type, cases ...api.Type) api.Type {
	return num(api.TMatch, n, append([]api.Type{t}, cases...)...)
}
func wild(lo, hi api.Type) api.Type      { return of(api.TWild, lo, hi) }
func variable(k int) api.Type            { return num(api.TVar, k) }
func bound(num, sym int) api.Type        { return api.Type{Kind: api.TBound, Num: num, Sym: sym} }
func times(n int, t api.Type) []api.Type { return slices.Repeat([]api.Type{t}, n) }
func refine(name string, l ...api.Type) api.Type {
	return api.Type{Kind: api.TRefine, Name: name, Args: l}
}

// Types without Args.
var (
	anyType = of(api.TAny)
	nothing = of(api.TNothing)
	null    = of(api.TNull)
	unit    = of(api.TUnit)
	integer = of(api.TInt)
	long    = of(api.TLong)
	text    = of(api.TString)
)

// chain returns a type of a depth, with another one at its end.
func chain(depth int, last api.Type) api.Type {
	for range depth - 1 {
		last = array(last)
	}
	return last
}

// wide returns a type with a number of nodes, three levels deep.
func wide(nodes int) api.Type {
	t := class(0)
	for nodes--; nodes > 0; {
		k := min(nodes, 14)
		t.Args = append(t.Args, fun(times(k-1, integer)...))
		nodes -= k
	}
	return t
}

// doubled returns a type of a depth whose Args are twice the same list.
func doubled(depth int, last api.Type) api.Type {
	for range depth - 1 {
		last = fun(last, last)
	}
	return last
}

// ring returns a type that contains itself, some levels down.
func ring(levels int) api.Type {
	l := make([]api.Type, 1)
	t := sym(api.TArray, 0)
	t.Args = l
	l[0] = chain(levels, t)
	return t
}

// show writes any type in full.
func show(t api.Type) string {
	var b strings.Builder
	b.WriteString("{" + strconv.Itoa(t.Kind))
	if t.Sym != 0 {
		b.WriteString(" s" + strconv.Itoa(t.Sym))
	}
	if t.Name != "" {
		b.WriteString(" " + strconv.Quote(t.Name))
	}
	if t.Num != 0 {
		b.WriteString(" n" + strconv.Itoa(t.Num))
	}
	for _, a := range t.Args {
		b.WriteString(" " + show(a))
	}
	return b.String() + "}"
}

// same reports whether types are equal, field by field.
func same(a, b api.Type) bool {
	return a.Kind == b.Kind && a.Sym == b.Sym && a.Name == b.Name && a.Num == b.Num && slices.EqualFunc(a.Args, b.Args, same)
}

// clone returns a type in new memory, with spare memory behind its lists.
func clone(t api.Type) api.Type {
	if t.Args == nil {
		return t
	}
	l := make([]api.Type, 0, len(t.Args)+2)
	for _, a := range t.Args {
		l = append(l, clone(a))
	}
	spare := l[len(l):cap(l)]
	for i := range spare {
		spare[i] = of(-77)
	}
	t.Args = l
	return t
}

// spoil changes all nodes below a type.
func spoil(t api.Type) {
	for i := range t.Args {
		spoil(t.Args[i])
		t.Args[i].Kind = -5
	}
}

// spared reports whether the memory behind all lists of a type that clone made
// is what it was.
func spared(t api.Type) bool {
	l := t.Args[len(t.Args):cap(t.Args)]
	return !slices.ContainsFunc(l, func(t api.Type) bool { return t.Kind != -77 }) && !slices.ContainsFunc(t.Args, func(t api.Type) bool { return !spared(t) })
}

// sample returns a program that CheckAll accepts, and locals.
//
// Classes: A (a trait) with the field a; B[T0] with the fields b, v (var) and
// z (lazy) and the type members t and u (two parameters); C[+T1, -T2, F3
// (one parameter)]; the object O, with the class O#.D[T4] in it, and in this one
// the object O#.D.P# with the class O#.D.P#.E in it; the class & with the object
// =># in it.
func sample() api.Env {
	full := func(name string, kind, owner int, tparams ...int) api.Class {
		return api.Class{Name: name, Kind: kind, Owner: owner, TParams: tparams, Parents: []api.Type{anyType}}
	}
	tparam := func(name string, class, method, variance, arity int) api.TypeParam {
		return api.TypeParam{Name: name, Class: class, Method: method, Variance: variance, Arity: arity, Lo: nothing, Hi: anyType}
	}
	p := api.Program{
		Main: -1,
		Classes: []api.Class{
			full("A", api.IsTrait, -1), full("B", api.IsClass, -1, 0), full("C", api.IsClass, -1, 1, 2, 3), full("O", api.IsObject, -1),
			full("D", api.IsClass, 3, 4), full("P", api.IsObject, 4), full("E", api.IsClass, 5), full("&", api.IsClass, -1), full("=>", api.IsObject, 7),
		},
		Fields: []api.Field{
			{Name: "a", Owner: 0, Type: integer}, {Name: "b", Owner: 1, Type: param(0)},
			{Name: "v", Owner: 1, Flags: api.Var, Type: class(0)}, {Name: "z", Owner: 1, Flags: api.Lazy, Type: text},
		},
		TParams: []api.TypeParam{
			tparam("T0", 1, -1, 0, 0), tparam("T1", 2, -1, 1, 0), tparam("T2", 2, -1, -1, 0), tparam("F3", 2, -1, 0, 1),
			tparam("T4", 4, -1, 0, 0), tparam("M5", -1, 0, 0, 0), tparam("M6", -1, 0, 0, 2), tparam("?", -1, 1, 0, 1),
		},
		Types: []api.TypeMember{
			{Name: "t", Owner: 1, Lo: nothing, Hi: class(0)}, {Name: "u", Owner: 1, Arity: 2, Lo: lambda(2, integer), Hi: anyType},
		},
		Methods: []api.Method{
			{Name: "m", Owner: 4, TParams: []int{5, 6}, Params: 3, Result: param(5), Body: &api.Tree{}, Locals: []api.Local{
				{Name: "x", Type: class(1, integer)}, {Name: "y", Type: byName(integer)}, {Name: "ys", Type: repeat(integer)},
				{Name: "l", Type: integer, Flags: api.Var}, {Name: "w", Type: this(4), Flags: api.Lazy},
			}},
			{Name: "g", Owner: -1, TParams: []int{7}, Result: unit, Body: &api.Tree{}},
		},
	}
	p.Classes[0].Fields = []int{0}
	p.Classes[1].Fields = []int{1, 2, 3}
	p.Classes[1].Types = []int{0, 1}
	p.Classes[4].Methods = []int{0}
	return api.Env{P: p, Locals: p.Methods[0].Locals}
}

// The sample is right, so all faults of its changes are those of the changes.
func TestSample(t *testing.T) {
	if f := types.CheckAll(sample().P); f.Code != api.OK {
		t.Fatalf("%v", f)
	}
}
