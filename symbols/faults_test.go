package symbols_test

import (
	"cmp"
	"math"
	"slices"
	"strings"
	"testing"

	"newel/api"
	"newel/symbols"
)

// change is a change of the sample that makes it wrong.
type change struct {
	pass int // the rules in their order, for each part by itself
	want symbols.Fault
	make func(p *api.Program)
}

// The passes.
const (
	size = iota
	ofClass
	ofNesting
	ofParents
	ofAncestors
	ofMethod
	ofField
	ofTParam
	ofTypeMember
	classNames
	fieldNames
	methodNames
	typeMemberNames
	tparamNames
	ofMain
)

// before compares the places of two changes in the list of the rules; those of
// one item stand in the order of the rules.
func before(a, b change) int {
	return cmp.Or(a.pass-b.pass, a.want.Index-b.want.Index)
}

func onClass(i int, code api.Errno, make func(c *api.Class)) change {
	return change{ofClass, fault(symbols.PClass, i, code), func(p *api.Program) { make(&p.Classes[i]) }}
}

func onParents(i int, code api.Errno, make func(c *api.Class)) change {
	return change{ofParents, fault(symbols.PClass, i, code), func(p *api.Program) { make(&p.Classes[i]) }}
}

func onMethod(i int, code api.Errno, make func(m *api.Method)) change {
	return change{ofMethod, fault(symbols.PMethod, i, code), func(p *api.Program) { make(&p.Methods[i]) }}
}

func onField(i int, code api.Errno, make func(f *api.Field)) change {
	return change{ofField, fault(symbols.PField, i, code), func(p *api.Program) { make(&p.Fields[i]) }}
}

func onTParam(i int, code api.Errno, make func(t *api.TypeParam)) change {
	return change{ofTParam, fault(symbols.PTParam, i, code), func(p *api.Program) { make(&p.TParams[i]) }}
}

func onTypeMember(i int, code api.Errno, make func(t *api.TypeMember)) change {
	return change{ofTypeMember, fault(symbols.PTypeMember, i, code), func(p *api.Program) { make(&p.Types[i]) }}
}

func onMain(main int, code api.Errno, make func(p *api.Program)) change {
	return change{ofMain, fault(symbols.PMain, main, code), func(p *api.Program) {
		p.Main = main
		make(p)
	}}
}

func limits() []change {
	none := symbols.Fault{Code: api.ErrLimit}
	return []change{
		{size, none, func(p *api.Program) { p.Classes = append(p.Classes, make([]api.Class, 501-len(p.Classes))...) }},
		{size, none, func(p *api.Program) { p.Methods = append(p.Methods, make([]api.Method, 501-len(p.Methods))...) }},
		{size, none, func(p *api.Program) { p.Fields = append(p.Fields, make([]api.Field, 501-len(p.Fields))...) }},
		{size, none, func(p *api.Program) { p.TParams = append(p.TParams, make([]api.TypeParam, 501-len(p.TParams))...) }},
		{size, none, func(p *api.Program) { p.Types = append(p.Types, make([]api.TypeMember, 501-len(p.Types))...) }},
	}
}

// Rule 2, in the order of its text for each class.
func classFaults() []change {
	l := []change{
		onClass(cMain, api.ErrName, func(c *api.Class) { c.Name = "" }),
		onClass(cDeep, api.ErrName, func(c *api.Class) { c.Name = "De#ep" }),
		onClass(cInner, api.ErrName, func(c *api.Class) { c.Name = "0" }),
		onClass(cMeter, api.ErrName, func(c *api.Class) { c.Name = "m+" }),
		onClass(cMain, api.ErrKind, func(c *api.Class) { c.Kind = api.ClassKinds }),
		onClass(cMeter, api.ErrKind, func(c *api.Class) { c.Kind = -1 }),
		onClass(cEnd, api.ErrKind, func(c *api.Class) { c.Kind = math.MinInt }),
	}
	for _, flag := range []int{api.Override, api.Var, api.Lazy, api.Volatile, api.Given, api.Using, api.Inline, api.Extension, api.Flags, 1 << 40, math.MinInt, -1 << 20} {
		for _, i := range []int{cShape, cBase, cCircle, cMain, cEnd} {
			l = append(l, onClass(i, api.ErrInvalid, func(c *api.Class) { c.Flags |= flag }))
		}
	}
	return append(l,
		onClass(cBase, api.ErrInvalid, func(c *api.Class) { c.Flags = api.Abstract | api.Final }),
		onClass(cTrait, api.ErrInvalid, func(c *api.Class) { c.Flags = api.Abstract | api.Final }),
		onClass(cShape, api.ErrInvalid, func(c *api.Class) { c.Flags = api.Final }),
		onClass(cShape, api.ErrInvalid, func(c *api.Class) { c.Flags = api.Case }),
		onClass(cShape, api.ErrInvalid, func(c *api.Class) { c.Flags = api.Value }),
		onClass(cMain, api.ErrInvalid, func(c *api.Class) { c.Flags = api.Abstract }),
		onClass(cMain, api.ErrInvalid, func(c *api.Class) { c.Flags = api.Sealed }),
		onClass(cMain, api.ErrInvalid, func(c *api.Class) { c.Flags = api.Value }),
		onClass(cMain, api.ErrRange, func(c *api.Class) { c.Owner = cMain }),
		onClass(cShape, api.ErrRange, func(c *api.Class) { c.Owner = cShape }),
		onClass(cMain, api.ErrRange, func(c *api.Class) { c.Owner = 9 }),
		onClass(cMain, api.ErrRange, func(c *api.Class) { c.Owner = -2 }),
		onClass(cMeter, api.ErrRange, func(c *api.Class) { c.TParams = []int{7} }),
		onClass(cMeter, api.ErrRange, func(c *api.Class) { c.TParams = []int{-1} }),
		onClass(cMeter, api.ErrRange, func(c *api.Class) { c.Params = []int{fV, 6} }),
		onClass(cMeter, api.ErrRange, func(c *api.Class) { c.Params = []int{-1, fV} }),
		onClass(cMeter, api.ErrRange, func(c *api.Class) { c.Fields = []int{fV, 6} }),
		onClass(cMeter, api.ErrRange, func(c *api.Class) { c.Fields = []int{fV, -1} }),
		onClass(cMain, api.ErrRange, func(c *api.Class) { c.Methods = []int{6} }),
		onClass(cMain, api.ErrRange, func(c *api.Class) { c.Methods = []int{-1, mMain} }),
		onClass(cEnd, api.ErrRange, func(c *api.Class) { c.Types = []int{yEndUnit, math.MaxInt} }),
		onClass(cEnd, api.ErrRange, func(c *api.Class) { c.Types = []int{math.MinInt} }),
		onClass(cBase, api.ErrTwice, func(c *api.Class) { c.TParams = []int{tBaseA, tBaseB, tBaseA} }),
		onClass(cMeter, api.ErrTwice, func(c *api.Class) { c.Params = []int{fV, fV} }),
		onClass(cCircle, api.ErrTwice, func(c *api.Class) { c.Fields = []int{fX, fY, fN, fSize, fN} }),
		onClass(cMain, api.ErrTwice, func(c *api.Class) { c.Methods = []int{mMain, mMain} }),
		onClass(cEnd, api.ErrTwice, func(c *api.Class) { c.Types = []int{yEndUnit, yEndUnit, yEndOther} }),
		change{ofClass, fault(symbols.PClass, cBase, api.ErrArity), func(p *api.Program) {
			addTParams(p, 11, cBase, -1, &p.Classes[cBase].TParams)
		}},
		change{ofClass, fault(symbols.PClass, cCircle, api.ErrArity), func(p *api.Program) { addParams(p, 11) }},
		onClass(cShape, api.ErrArity, func(c *api.Class) { c.Params = []int{fName} }),
		onClass(cMain, api.ErrArity, func(c *api.Class) { c.Params = []int{fV} }),
		onClass(cMain, api.ErrArity, func(c *api.Class) { c.TParams = []int{tTraitA} }),
		onClass(cEnd, api.ErrInvalid, func(c *api.Class) { c.Fields = []int{fN} }),
		onClass(cEnd, api.ErrInvalid, func(c *api.Class) { c.Methods = []int{mMain} }),
		onClass(cMain, api.ErrInvalid, func(c *api.Class) { c.Methods = []int{mMain, mPlus} }),
		onClass(cInner, api.ErrInvalid, func(c *api.Class) { c.Types = []int{yUnit} }),
		onClass(cEnd, api.ErrInvalid, func(c *api.Class) { c.TParams = []int{tBaseA} }),
		onClass(cEnd, api.ErrInvalid, func(c *api.Class) { c.TParams = []int{tLessT} }),
		change{ofClass, fault(symbols.PClass, cTrait, api.ErrInvalid), func(p *api.Program) { p.TParams[tTraitA].Method = 0 }},
		onClass(cEnd, api.ErrInvalid, func(c *api.Class) { c.Params = []int{fX} }),
		onClass(cCircle, api.ErrInvalid, func(c *api.Class) { c.Params = []int{fX, fV} }),
		onClass(cMeter, api.ErrInvalid, func(c *api.Class) { c.Params = nil }),
		onClass(cInner, api.ErrInvalid, func(c *api.Class) { c.Flags = api.Value }),
		onClass(cCircle, api.ErrInvalid, func(c *api.Class) { c.Flags = api.Value }),
		change{ofClass, fault(symbols.PClass, cMeter, api.ErrInvalid), func(p *api.Program) {
			p.Fields[fN].Owner = cMeter
			p.Classes[cMeter].Fields = []int{fN, fV}
			p.Classes[cCircle].Fields = []int{fX, fY, fSize}
		}},
	)
}

// addTParams adds type parameters to the table and a list.
func addTParams(p *api.Program, count, class, method int, list *[]int) {
	for i := range count {
		*list = append(*list, len(p.TParams))
		p.TParams = append(p.TParams, api.TypeParam{Name: "P" + string(rune('a'+i)), Class: class, Method: method})
	}
}

// addParams adds parameters to cCircle.
func addParams(p *api.Program, count int) {
	c := &p.Classes[cCircle]
	for i := range count {
		c.Fields = append(c.Fields, len(p.Fields))
		c.Params = append(c.Params, len(p.Fields))
		p.Fields = append(p.Fields, api.Field{Name: "p" + string(rune('a'+i)), Owner: cCircle})
	}
}

// Rules 3 to 5.
func parentFaults() []change {
	cycle := fault(symbols.PClass, cInner, api.ErrCycle)
	return []change{
		{ofNesting, cycle, func(p *api.Program) { p.Classes[cInner].Owner = cDeep }},
		{ofNesting, fault(symbols.PClass, cMain, api.ErrCycle), func(p *api.Program) { p.Classes[cMain].Owner = cDeep }},
		{ofNesting, fault(symbols.PClass, cBase, api.ErrCycle), func(p *api.Program) {
			p.Classes[cBase].Owner, p.Classes[cTrait].Owner, p.Classes[cShape].Owner = cTrait, cBase, cTrait
		}},
		onParents(cShape, api.ErrEmpty, func(c *api.Class) { c.Parents = nil }),
		onParents(cEnd, api.ErrEmpty, func(c *api.Class) { c.Parents = []api.Type{} }),
		onParents(cEnd, api.ErrLimit, func(c *api.Class) { c.Parents = slices.Repeat([]api.Type{parent(cShape, 1)}, 13) }),
		onParents(cEnd, api.ErrKind, func(c *api.Class) { c.Parents = []api.Type{{}} }),
		onParents(cEnd, api.ErrKind, func(c *api.Class) { c.Parents = []api.Type{{Kind: api.TString}} }),
		onParents(cEnd, api.ErrKind, func(c *api.Class) { c.Parents = []api.Type{{Kind: -1}} }),
		onParents(cEnd, api.ErrKind, func(c *api.Class) { c.Parents = []api.Type{{Kind: api.TKinds}} }),
		onParents(cEnd, api.ErrKind, func(c *api.Class) { c.Parents = []api.Type{parent(-1, 0), parent(-1, 0)} }),
		onParents(cCircle, api.ErrKind, func(c *api.Class) { c.Parents = []api.Type{parent(cBase, 2), {Kind: api.TParam}} }),
		onParents(cMeter, api.ErrRange, func(c *api.Class) { c.Parents = []api.Type{parent(9, 0)} }),
		onParents(cTrait, api.ErrRange, func(c *api.Class) { c.Parents = []api.Type{{Kind: api.TClass, Sym: -1}} }),
		onParents(cEnd, api.ErrRange, func(c *api.Class) { c.Parents = []api.Type{parent(-1, 0), {Kind: api.TClass, Sym: math.MinInt}} }),
		onParents(cEnd, api.ErrKind, func(c *api.Class) { c.Parents = []api.Type{parent(cShape, 1)} }),
		onParents(cEnd, api.ErrKind, func(c *api.Class) { c.Parents = []api.Type{parent(cMain, 0)} }),
		onParents(cTrait, api.ErrKind, func(c *api.Class) { c.Parents = []api.Type{parent(cInner, 0)} }),
		onParents(cTrait, api.ErrKind, func(c *api.Class) { c.Parents = []api.Type{parent(cShape, 1)} }),
		onParents(cEnd, api.ErrKind, func(c *api.Class) { c.Parents = []api.Type{parent(-1, 0), parent(cInner, 0)} }),
		onParents(cEnd, api.ErrKind, func(c *api.Class) { c.Parents = []api.Type{parent(cInner, 0), parent(cBase, 2)} }),
		onParents(cEnd, api.ErrKind, func(c *api.Class) { c.Parents = []api.Type{parent(cInner, 0), parent(cMain, 0)} }),
		onParents(cInner, api.ErrFinal, func(c *api.Class) { c.Parents = []api.Type{parent(cEnd, 0)} }),
		onParents(cEnd, api.ErrFinal, func(c *api.Class) { c.Parents = []api.Type{parent(cEnd, 0)} }),
		onParents(cInner, api.ErrArity, func(c *api.Class) { c.Parents = []api.Type{parent(cBase, 1)} }),
		onParents(cInner, api.ErrArity, func(c *api.Class) { c.Parents = []api.Type{parent(cBase, 0)} }),
		onParents(cInner, api.ErrArity, func(c *api.Class) { c.Parents = []api.Type{parent(-1, 0), parent(cShape, 1), parent(cTrait, 2)} }),
		onParents(cInner, api.ErrTwice, func(c *api.Class) {
			c.Parents = []api.Type{parent(-1, 0), parent(cShape, 1), parent(cTrait, 1), parent(cShape, 1)}
		}),
		onParents(cMeter, api.ErrInvalid, func(c *api.Class) { c.Flags, c.Parents = api.Case, []api.Type{parent(cCircle, 0)} }),
		onParents(cMeter, api.ErrInvalid, func(c *api.Class) { c.Flags, c.Parents = api.Value, []api.Type{parent(cInner, 0)} }),
		{ofAncestors, fault(symbols.PClass, cInner, api.ErrCycle), func(p *api.Program) { p.Classes[cInner].Parents = []api.Type{parent(cInner, 0)} }},
		{ofAncestors, fault(symbols.PClass, cShape, api.ErrCycle), func(p *api.Program) {
			p.Classes[cShape].Parents = []api.Type{parent(-1, 0), parent(cTrait, 1)}
		}},
		{ofAncestors, fault(symbols.PClass, cMeter, api.ErrInvalid), func(p *api.Program) {
			p.Classes[cInner].Parents = []api.Type{parent(cCircle, 0)}
			p.Classes[cMeter].Flags, p.Classes[cMeter].Parents = api.Case, []api.Type{parent(cInner, 0)}
		}},
	}
}

// Rule 6.
func methodFaults() []change {
	l := []change{
		onMethod(mPlus, api.ErrName, func(m *api.Method) { m.Name = "a b" }),
		onMethod(mLess, api.ErrName, func(m *api.Method) { m.Name = strings.Repeat("x", 65) }),
	}
	for _, flag := range []int{api.Sealed, api.Case, api.Value, api.Var, api.Lazy, api.Volatile, api.Using, api.Flags, math.MinInt, -1 << 20} {
		l = append(l, onMethod(mDeep, api.ErrInvalid, func(m *api.Method) { m.Flags |= flag }))
	}
	l = append(l,
		onMethod(mArea, api.ErrInvalid, func(m *api.Method) { m.Body = &api.Tree{} }),
		onMethod(mArea, api.ErrInvalid, func(m *api.Method) { m.Flags = 0 }),
		onMethod(mLess, api.ErrInvalid, func(m *api.Method) { m.Flags = api.Abstract }),
		onMethod(mPlus, api.ErrInvalid, func(m *api.Method) { m.Body = nil }),
		onMethod(mArea, api.ErrInvalid, func(m *api.Method) { m.Flags = api.Abstract | api.Final }),
		onMethod(mArea, api.ErrInvalid, func(m *api.Method) { m.Flags = api.Abstract | api.Private }),
		onMethod(mArea, api.ErrInvalid, func(m *api.Method) { m.Flags = api.Abstract | api.Inline }),
		onMethod(mPlus, api.ErrRange, func(m *api.Method) { m.Owner = 9 }),
		onMethod(mPlus, api.ErrRange, func(m *api.Method) { m.Owner = -2 }),
		onMethod(mPlus, api.ErrRange, func(m *api.Method) { m.TParams = []int{tPlusT, 7} }),
		onMethod(mPlus, api.ErrRange, func(m *api.Method) { m.TParams = []int{-1} }),
		onMethod(mLess, api.ErrTwice, func(m *api.Method) { m.TParams = []int{tLessT, tLessU, tLessT} }),
		change{ofMethod, fault(symbols.PMethod, mLess, api.ErrArity), func(p *api.Program) {
			addTParams(p, 11, -1, mLess, &p.Methods[mLess].TParams)
		}},
		onMethod(mPlus, api.ErrArity, func(m *api.Method) { m.Params = -1 }),
		onMethod(mPlus, api.ErrArity, func(m *api.Method) { m.Params = math.MinInt }),
		onMethod(mPlus, api.ErrArity, func(m *api.Method) { m.Params = 4 }),
		onMethod(mPlus, api.ErrArity, func(m *api.Method) { m.Params, m.Locals = 13, locals(13, 0) }),
		onMethod(mPlus, api.ErrLimit, func(m *api.Method) { m.Params, m.Locals = 0, locals(201, 0) }),
		onMethod(mPlus, api.ErrName, func(m *api.Method) { m.Locals = []api.Local{{Name: "a"}, {Name: ""}} }),
		onMethod(mPlus, api.ErrName, func(m *api.Method) { m.Params, m.Locals = 0, []api.Local{{Name: "9a"}, {Flags: -1}} }),
		onMethod(mPlus, api.ErrInvalid, func(m *api.Method) { m.Params, m.Locals = 0, []api.Local{{Name: "a", Flags: api.Lazy | api.Var}, {}} }),
	)
	for _, flag := range []int{api.Abstract, api.Final, api.Sealed, api.Private, api.Override, api.Case, api.Value, api.Volatile, api.Inline, api.Extension, api.Flags, math.MinInt, -1 << 20} {
		l = append(l,
			onMethod(mPlus, api.ErrInvalid, func(m *api.Method) { m.Params, m.Locals = 0, locals(1, flag) }),
			onMethod(mDeep, api.ErrInvalid, func(m *api.Method) { m.Params, m.Locals = 1, locals(1, flag) }))
	}
	for _, flag := range []int{api.Var, api.Lazy, api.Given} {
		l = append(l, onMethod(mDeep, api.ErrInvalid, func(m *api.Method) { m.Params, m.Locals = 1, locals(1, flag) }))
	}
	return append(l,
		onMethod(mPlus, api.ErrTwice, func(m *api.Method) {
			m.Params, m.Locals = 3, []api.Local{{Name: "a"}, {Name: "b"}, {Name: "a"}}
		}),
		onMethod(mMain, api.ErrInvalid, func(m *api.Method) { m.TParams = []int{tLessT} }),
		onMethod(mMain, api.ErrInvalid, func(m *api.Method) { m.TParams = []int{tBaseA} }),
		change{ofMethod, fault(symbols.PMethod, mLess, api.ErrInvalid), func(p *api.Program) { p.TParams[tLessU].Class = cBase }},
		change{ofMethod, fault(symbols.PMethod, mLess, api.ErrInvalid), func(p *api.Program) { p.TParams[tLessU].Method = mPlus }},
		change{ofMethod, fault(symbols.PMethod, mCircleArea, api.ErrNoEntry), func(p *api.Program) { p.Classes[cCircle].Methods = nil }},
		onMethod(mPlus, api.ErrNoEntry, func(m *api.Method) { m.Owner = cMain }),
		change{ofMethod, fault(symbols.PMethod, mLess, api.ErrAbstract), func(p *api.Program) {
			p.Classes[cBase].Flags = 0
			p.Methods[mLess].Flags, p.Methods[mLess].Body = api.Abstract, nil
		}},
		onMethod(mMain, api.ErrAbstract, func(m *api.Method) { m.Flags, m.Body = api.Abstract, nil }),
		onMethod(mPlus, api.ErrAbstract, func(m *api.Method) { m.Flags, m.Body = api.Abstract|api.Override, nil }),
		onMethod(mPlus, api.ErrInvalid, func(m *api.Method) { m.Flags = api.Override }),
	)
}

// locals returns locals with different names and equal flags.
func locals(count, flags int) []api.Local {
	var l []api.Local
	for i := range count {
		l = append(l, api.Local{Name: "l" + strings.Repeat("$", i/26) + string(rune('a'+i%26)), Flags: flags})
	}
	return l
}

// Rule 7.
func memberFaults() []change {
	l := []change{
		onField(fV, api.ErrName, func(f *api.Field) { f.Name = "v." }),
		onTParam(tTraitA, api.ErrName, func(t *api.TypeParam) { t.Name = "?a" }),
		onTypeMember(yEndOther, api.ErrName, func(t *api.TypeMember) { t.Name = "" }),
	}
	for _, flag := range []int{api.Abstract, api.Sealed, api.Case, api.Value, api.Using, api.Inline, api.Extension, api.Flags, math.MinInt, -1 << 20} {
		l = append(l, onField(fName, api.ErrInvalid, func(f *api.Field) { f.Flags |= flag }))
	}
	return append(l,
		onField(fN, api.ErrInvalid, func(f *api.Field) { f.Flags = api.Lazy | api.Var }),
		onField(fN, api.ErrInvalid, func(f *api.Field) { f.Flags = api.Volatile }),
		change{ofField, fault(symbols.PField, fN, api.ErrRange), func(p *api.Program) {
			p.Classes[cCircle].Fields = []int{fX, fY, fSize}
			p.Fields[fN].Owner = -1
		}},
		change{ofField, fault(symbols.PField, fSize, api.ErrRange), func(p *api.Program) {
			p.Classes[cCircle].Fields = []int{fX, fY}
			p.Fields[fSize].Owner = 9
		}},
		change{ofField, fault(symbols.PField, fName, api.ErrNoEntry), func(p *api.Program) { p.Classes[cShape].Fields = nil }},
		onField(fX, api.ErrInvalid, func(f *api.Field) { f.Flags = api.Lazy }),
		onTParam(tTraitA, api.ErrRange, func(t *api.TypeParam) { t.Variance = 2 }),
		onTParam(tBaseB, api.ErrRange, func(t *api.TypeParam) { t.Variance = -2 }),
		onTParam(tBaseB, api.ErrRange, func(t *api.TypeParam) { t.Arity = -1 }),
		onTParam(tPlusT, api.ErrRange, func(t *api.TypeParam) { t.Arity = 13 }),
		change{ofTParam, fault(symbols.PTParam, tBaseA, api.ErrRange), func(p *api.Program) {
			p.Classes[cBase].TParams = []int{tBaseB}
			p.Classes[cCircle].Parents[0] = parent(cBase, 1)
			p.TParams[tBaseA].Class = -1
		}},
		change{ofTParam, fault(symbols.PTParam, tPlusT, api.ErrRange), func(p *api.Program) {
			p.Methods[mPlus].TParams = nil
			p.TParams[tPlusT].Class = cTrait
		}},
		change{ofTParam, fault(symbols.PTParam, tPlusT, api.ErrRange), func(p *api.Program) {
			p.Methods[mPlus].TParams = nil
			p.TParams[tPlusT].Method = 6
		}},
		change{ofTParam, fault(symbols.PTParam, tPlusT, api.ErrRange), func(p *api.Program) {
			p.Methods[mPlus].TParams = nil
			p.TParams[tPlusT].Class, p.TParams[tPlusT].Method = -2, mPlus
		}},
		change{ofTParam, fault(symbols.PTParam, tPlusT, api.ErrRange), func(p *api.Program) {
			p.Methods[mPlus].TParams = nil
			p.TParams[tPlusT].Class, p.TParams[tPlusT].Method = cShape, -2
		}},
		change{ofTParam, fault(symbols.PTParam, tPlusT, api.ErrNoEntry), func(p *api.Program) { p.Methods[mPlus].TParams = nil }},
		change{ofTParam, fault(symbols.PTParam, tPlusT, api.ErrNoEntry), func(p *api.Program) {
			p.Methods[mPlus].TParams = nil
			p.TParams[tPlusT].Class, p.TParams[tPlusT].Method = cShape, -1
		}},
		onTParam(tLessU, api.ErrVariance, func(t *api.TypeParam) { t.Variance = api.Covariant }),
		onTParam(tPlusT, api.ErrVariance, func(t *api.TypeParam) { t.Variance = api.Contravariant }),
		change{ofTypeMember, fault(symbols.PTypeMember, yUnit, api.ErrRange), func(p *api.Program) {
			p.Classes[cShape].Types = nil
			p.Types[yUnit].Owner = -1
		}},
		change{ofTypeMember, fault(symbols.PTypeMember, yUnit, api.ErrRange), func(p *api.Program) {
			p.Classes[cShape].Types = nil
			p.Types[yUnit].Owner = 9
		}},
		onTypeMember(yUnit, api.ErrRange, func(t *api.TypeMember) { t.Arity = -1 }),
		onTypeMember(yEndUnit, api.ErrRange, func(t *api.TypeMember) { t.Arity = 13 }),
		change{ofTypeMember, fault(symbols.PTypeMember, yEndUnit, api.ErrNoEntry), func(p *api.Program) { p.Classes[cEnd].Types = []int{yEndOther} }},
	)
}

// Rules 8 and 9.
func lastFaults() []change {
	any := func(*api.Program) {}
	return []change{
		{classNames, fault(symbols.PClass, cEnd, api.ErrTwice), func(p *api.Program) { p.Classes[cEnd].Name = "Meter" }},
		{classNames, fault(symbols.PClass, cTrait, api.ErrTwice), func(p *api.Program) { p.Classes[cTrait].Name = "Shape" }},
		{classNames, fault(symbols.PClass, cDeep, api.ErrTwice), func(p *api.Program) { p.Classes[cDeep].Owner, p.Classes[cDeep].Name = -1, "Main" }},
		{fieldNames, fault(symbols.PField, fY, api.ErrTwice), func(p *api.Program) { p.Fields[fY].Name = "x" }},
		{fieldNames, fault(symbols.PField, fN, api.ErrTwice), func(p *api.Program) { p.Fields[fN].Name = "size" }},
		{methodNames, fault(symbols.PMethod, mArea, api.ErrTwice), func(p *api.Program) { p.Methods[mArea].Name = "name" }},
		{methodNames, fault(symbols.PMethod, mCircleArea, api.ErrTwice), func(p *api.Program) { p.Methods[mCircleArea].Name = "x" }},
		{typeMemberNames, fault(symbols.PTypeMember, yEndOther, api.ErrTwice), func(p *api.Program) { p.Types[yEndOther].Name = "Unit" }},
		{tparamNames, fault(symbols.PTParam, tBaseB, api.ErrTwice), func(p *api.Program) { p.TParams[tBaseB].Name = "A" }},
		{tparamNames, fault(symbols.PTParam, tLessU, api.ErrTwice), func(p *api.Program) { p.TParams[tLessU].Name = "T" }},
		onMain(6, api.ErrRange, any),
		onMain(-2, api.ErrRange, any),
		onMain(math.MaxInt, api.ErrRange, any),
		onMain(math.MinInt, api.ErrRange, any),
		onMain(mPlus, api.ErrInvalid, any),
		onMain(mPlus, api.ErrInvalid, func(p *api.Program) { p.Methods[mPlus].Params = 0 }),
		onMain(mLess, api.ErrInvalid, any),
		onMain(mArea, api.ErrInvalid, any),
		onMain(mCircleArea, api.ErrInvalid, any),
		onMain(mDeep, api.ErrInvalid, any),
	}
}

func changes() []change {
	return slices.Concat(limits(), classFaults(), parentFaults(), methodFaults(), memberFaults(), lastFaults())
}

func changed(list ...change) api.Program {
	p := sample()
	for _, c := range list {
		c.make(&p)
	}
	return p
}

// P6.1: each fault of each rule, at an item of a program that is right
// otherwise.
func TestFaults(t *testing.T) {
	if f := symbols.Check(sample()); f != (symbols.Fault{}) {
		t.Fatalf("the sample: %v", f)
	}
	for k, c := range changes() {
		if f := symbols.Check(changed(c)); f != c.want {
			t.Errorf("change %d: %v, not %v (%s)", k, f, c.want, partNames[c.want.Part])
		}
	}
}

// P6.1: of two faults the first one by the list of the rules is told. (A
// change that takes away what the other one needs is held against the table
// of conditions alone.)
func TestOrder(t *testing.T) {
	list := changes()
	slices.SortStableFunc(list, before)
	clear := 0
	for i, a := range list {
		for _, b := range list[i+1:] {
			p, q := changed(b, a), changed(a, b)
			f, g := symbols.Check(p), symbols.Check(q)
			if f != first(&p) || g != first(&q) {
				t.Fatalf("%v and %v: %v and %v, not %v and %v", a.want, b.want, f, g, first(&p), first(&q))
			}
			if f == a.want {
				clear++
			}
		}
	}
	if all := len(list) * (len(list) - 1) / 2; clear < all*9/10 {
		t.Errorf("the first fault is told %d times of %d", clear, all)
	}
}
