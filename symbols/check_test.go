package symbols_test

import (
	"slices"
	"strings"
	"testing"

	"newel/api"
	"newel/symbols"
)

func wantFault(t *testing.T, what string, p api.Program, want symbols.Fault) {
	t.Helper()
	if f := symbols.Check(p); f != want || f != first(&p) {
		t.Errorf("%s: %v, not %v (%s)", what, f, want, partNames[want.Part])
	}
}

// The examples of the chapter.
func TestExamples(t *testing.T) {
	b := newBuilder()
	b.class(api.IsTrait, 0, -1, "A")
	b.class(api.IsClass, 0, -1, "B", 0)
	wantFault(t, "example 1", b.p, symbols.Fault{})
	if l := symbols.Ancestors(b.p, 1); !slices.Equal(l, []int{0}) {
		t.Errorf("Ancestors(1) = %v", l)
	}
	if l := symbols.Children(b.p, 0); !slices.Equal(l, []int{1}) {
		t.Errorf("Children(0) = %v", l)
	}
	b.class(api.IsClass, 0, -1, "C", 1)
	b.p.Classes[1].Flags = api.Final
	wantFault(t, "example 1 with B Final", b.p, fault(symbols.PClass, 2, api.ErrFinal))

	own := api.Program{Main: -1, Classes: []api.Class{{Name: "A", Owner: -1, Parents: []api.Type{parent(0, 0)}}}}
	wantFault(t, "its own parent", own, fault(symbols.PClass, 0, api.ErrCycle))

	c := newBuilder()
	c.class(api.IsClass, 0, -1, "A")
	c.method(0, api.Abstract, "m")
	wantFault(t, "an abstract method", c.p, fault(symbols.PMethod, 0, api.ErrAbstract))
	c.p.Methods[0].Flags = 0
	wantFault(t, "a method without a body", c.p, fault(symbols.PMethod, 0, api.ErrInvalid))
}

// P6.5: the empty program; Main of the zero value names a method.
func TestEmpty(t *testing.T) {
	wantFault(t, "empty", api.Program{Main: -1}, symbols.Fault{})
	wantFault(t, "zero", api.Program{}, fault(symbols.PMain, 0, api.ErrRange))
	wantFault(t, "empty lists", api.Program{Classes: []api.Class{}, Methods: []api.Method{}, Main: -1}, symbols.Fault{})
	if s, e := symbols.Text(api.Program{Main: -1}); s != "" || e != api.OK {
		t.Errorf("Text = %q, %v", s, e)
	}
}

// P6.1: what is permitted: each flag, and the numbers up to the limits.
func TestPermitted(t *testing.T) {
	for what, edit := range map[string]func(p *api.Program){
		"flags of a class": func(p *api.Program) {
			p.Classes[cBase].Flags = api.Abstract | api.Sealed | api.Private | api.Case | api.Synthetic
			p.Classes[cCircle].Flags = 0
		},
		"a final case class": func(p *api.Program) {
			p.Classes[cEnd].Flags, p.Classes[cCircle].Flags = api.Final|api.Case|api.Sealed, 0
		},
		"a final value class": func(p *api.Program) { p.Classes[cMeter].Flags = api.Value | api.Case | api.Final | api.Private },
		"flags of a trait": func(p *api.Program) {
			p.Classes[cTrait].Flags = api.Abstract | api.Sealed | api.Private | api.Synthetic
		},
		"flags of an object": func(p *api.Program) { p.Classes[cMain].Flags = api.Final | api.Private | api.Case | api.Synthetic },
		"flags of a method": func(p *api.Program) {
			p.Methods[mCircleArea].Flags = api.Final | api.Private | api.Override | api.Given | api.Inline | api.Extension | api.Synthetic
		},
		"an abstract method": func(p *api.Program) {
			p.Methods[mArea].Flags = api.Abstract | api.Override | api.Given | api.Extension | api.Synthetic
		},
		"flags of a field": func(p *api.Program) {
			p.Fields[fN].Flags = api.Final | api.Private | api.Override | api.Var | api.Volatile | api.Given | api.Synthetic
		},
		"a lazy field": func(p *api.Program) {
			p.Fields[fSize].Flags = api.Final | api.Private | api.Override | api.Lazy | api.Given | api.Synthetic
		},
		"a variable parameter": func(p *api.Program) { p.Fields[fV].Flags = api.Var | api.Volatile },
		"flags of locals": func(p *api.Program) {
			p.Methods[mPlus].Locals[0].Flags = api.Using | api.Synthetic
			p.Methods[mPlus].Locals[2].Flags = api.Lazy | api.Given | api.Using | api.Synthetic
		},
		"a local with the name of a parameter": func(p *api.Program) { p.Methods[mPlus].Locals[2].Name = "y" },
		"12 type parameters":                   func(p *api.Program) { addTParams(p, 10, -1, mLess, &p.Methods[mLess].TParams) },
		"12 parameters of a class":             func(p *api.Program) { addParams(p, 10) },
		"12 parameters":                        func(p *api.Program) { p.Methods[mPlus].Params, p.Methods[mPlus].Locals = 12, locals(12, 0) },
		"200 locals":                           func(p *api.Program) { p.Methods[mPlus].Locals = locals(200, 0) },
		"all locals are parameters":            func(p *api.Program) { p.Methods[mPlus].Params, p.Methods[mPlus].Locals = 2, locals(2, 0) },
		"a type parameter of 12":               func(p *api.Program) { p.TParams[tBaseA].Arity, p.TParams[tBaseA].Variance = 12, -1 },
		"a type member of 12":                  func(p *api.Program) { p.Types[yUnit].Arity = 12 },
		"a companion":                          func(p *api.Program) { p.Classes[cMain].Name = "Shape" },
		"a class in a trait":                   func(p *api.Program) { p.Classes[cMeter].Owner = cShape },
		"methods with one name":                func(p *api.Program) { p.Methods[mCircleArea].Name, p.Methods[mPlus].Name = "main", "main" },
		"a method and a type member":           func(p *api.Program) { p.Methods[mArea].Name = "Unit" },
		"a field and a type member":            func(p *api.Program) { p.Fields[fName].Name = "Unit" },
		"a field and a method of another one":  func(p *api.Program) { p.Fields[fV].Name = "area" },
		"a class named as one inside":          func(p *api.Program) { p.Classes[cInner].Name = "End" },
		"no main method":                       func(p *api.Program) { p.Main = -1 },
		"a function as the main method": func(p *api.Program) {
			p.Main = mPlus
			p.Methods[mPlus].Params, p.Methods[mPlus].TParams = 0, nil
			p.TParams = p.TParams[:tPlusT]
		},
		"12 parents": func(p *api.Program) {
			for i := range 11 {
				p.Classes = append(p.Classes, api.Class{Name: "T" + string(rune('a'+i)), Kind: api.IsTrait, Owner: -1, Parents: []api.Type{parent(-1, 0)}})
				p.Classes[cInner].Parents = append(p.Classes[cInner].Parents, parent(9+i, 0))
			}
		},
		"TAny that is not looked into": func(p *api.Program) {
			p.Classes[cInner].Parents = []api.Type{{Kind: api.TAny, Sym: 99, Args: make([]api.Type, 3)}}
		},
		"TAny with the Sym of a trait": func(p *api.Program) {
			p.Classes[cInner].Parents = []api.Type{{Kind: api.TAny, Sym: cShape}, parent(cShape, 1)}
		},
		"types that are not looked into": func(p *api.Program) {
			p.Fields[fX].Type, p.TParams[tBaseA].Lo, p.Types[yUnit].Hi = api.Type{Kind: -5}, api.Type{Kind: 99}, api.Type{Kind: -1}
			p.Methods[mMain].Result, p.Classes[cEnd].Init = api.Type{Kind: -5}, []api.Tree{{Kind: -5}}
		},
	} {
		p := sample()
		edit(&p)
		wantFault(t, what, p, symbols.Fault{})
	}
}

// P6.1: tables with api.MaxTable items are permitted.
func TestFullTables(t *testing.T) {
	b := newBuilder()
	for i := range api.MaxTable {
		name := "c" + strings.Repeat("$", i/26) + string(rune('a'+i%26))
		b.class(api.IsTrait, 0, i-1, name)
		b.field(i, 0, name)
		b.method(i, 0, name+"_")
		b.tparam(i, -1, 0, name)
		b.typeMember(i, name)
		if i > 0 {
			b.p.Classes[i].Parents = append(b.p.Classes[i].Parents, parent(i-1, 1))
		}
	}
	// Without the table of conditions, which is slow for so many classes.
	check := func(what string, want symbols.Fault) {
		if f := symbols.Check(b.p); f != want {
			t.Errorf("%s: %v, not %v", what, f, want)
		}
	}
	check("full tables", symbols.Fault{})
	b.p.Classes[0].Owner = 499
	check("a cycle of owners", fault(symbols.PClass, 0, api.ErrCycle))
	b.p.Classes[0].Owner = -1
	b.p.Classes[0].Parents = append(b.p.Classes[0].Parents, parent(499, 1))
	check("a cycle of parents", fault(symbols.PClass, 0, api.ErrCycle))
	b.p.Classes[0].Fields = slices.Repeat([]int{0}, 1<<20)
	check("a long list", fault(symbols.PClass, 0, api.ErrTwice))
}

// P6.1: where an item has several faults, the rule that stands first counts,
// and of lists in it the first element.
func TestSeveral(t *testing.T) {
	for _, c := range []struct {
		what string
		edit func(p *api.Program)
		want symbols.Fault
	}{
		{"all of a class", func(p *api.Program) {
			p.Classes[cEnd] = api.Class{Name: "", Kind: 9, Flags: -1, Owner: -7, TParams: []int{-1, -1}}
		}, fault(symbols.PClass, cEnd, api.ErrName)},
		{"but its name", func(p *api.Program) {
			p.Classes[cEnd] = api.Class{Name: "E", Kind: 9, Flags: -1, Owner: -7, TParams: []int{-1, -1}}
		}, fault(symbols.PClass, cEnd, api.ErrKind)},
		{"but its kind", func(p *api.Program) {
			p.Classes[cEnd] = api.Class{Name: "E", Flags: -1, Owner: -7, TParams: []int{-1, -1}}
		}, fault(symbols.PClass, cEnd, api.ErrInvalid)},
		{"but its flags", func(p *api.Program) {
			p.Classes[cEnd] = api.Class{Name: "E", Owner: -7, TParams: []int{1, 1}}
		}, fault(symbols.PClass, cEnd, api.ErrRange)},
		{"but its owner", func(p *api.Program) {
			p.Classes[cEnd] = api.Class{Name: "E", Owner: -1, Kind: api.IsObject, TParams: []int{tBaseA, tBaseA}}
		}, fault(symbols.PClass, cEnd, api.ErrTwice)},
		{"an object with type parameters of another class", func(p *api.Program) {
			p.Classes[cEnd] = api.Class{Name: "E", Owner: -1, Kind: api.IsObject, TParams: []int{tBaseA}}
		}, fault(symbols.PClass, cEnd, api.ErrArity)},
		{"another class, and no parents", func(p *api.Program) {
			p.Classes[cEnd] = api.Class{Name: "E", Owner: -1, TParams: []int{tBaseA}}
		}, fault(symbols.PClass, cEnd, api.ErrInvalid)},
		{"an earlier class by a later rule", func(p *api.Program) {
			p.Classes[cShape].Parents = nil
			p.Classes[cTrait].Flags = api.Final
		}, fault(symbols.PClass, cTrait, api.ErrInvalid)},
		{"a cycle of owners ahead of parents", func(p *api.Program) {
			p.Classes[cShape].Parents = nil
			p.Classes[cTrait].Owner, p.Classes[cMeter].Owner = cMeter, cTrait
		}, fault(symbols.PClass, cMeter, api.ErrCycle)},
		{"parents of all classes ahead of cycles", func(p *api.Program) {
			p.Classes[cShape].Parents = append(p.Classes[cShape].Parents, parent(cTrait, 1))
			p.Classes[cTrait].Parents[1].Args = nil
		}, fault(symbols.PClass, cTrait, api.ErrArity)},
		{"a case class of itself", func(p *api.Program) {
			p.Classes[cCircle].Parents = []api.Type{parent(cCircle, 0)}
		}, fault(symbols.PClass, cCircle, api.ErrInvalid)},
		{"a cycle ahead of two case classes, class by class", func(p *api.Program) {
			p.Classes[cInner].Parents = []api.Type{parent(cCircle, 0)}
			p.Classes[cMeter].Flags, p.Classes[cMeter].Parents = api.Case, []api.Type{parent(cInner, 0)}
			p.Classes[cTrait].Parents = []api.Type{parent(-1, 0), parent(cTrait, 1)}
		}, fault(symbols.PClass, cMeter, api.ErrInvalid)},
		{"the first parent, not the first rule", func(p *api.Program) {
			p.Classes[cEnd].Parents = []api.Type{parent(cCircle, 3), {Kind: api.TString}}
		}, fault(symbols.PClass, cEnd, api.ErrArity)},
		{"too many parents, one of them of no kind", func(p *api.Program) {
			p.Classes[cEnd].Parents = make([]api.Type, 13)
		}, fault(symbols.PClass, cEnd, api.ErrLimit)},
		{"a final object as a parent", func(p *api.Program) {
			p.Classes[cEnd].Parents = []api.Type{parent(cDeep, 2)}
		}, fault(symbols.PClass, cEnd, api.ErrKind)},
		{"a final class with other arguments", func(p *api.Program) {
			p.Classes[cInner].Parents = []api.Type{parent(cEnd, 2)}
		}, fault(symbols.PClass, cInner, api.ErrFinal)},
		{"a trait twice, with other arguments", func(p *api.Program) {
			p.Classes[cInner].Parents = []api.Type{parent(-1, 0), parent(cShape, 1), parent(cShape, 2)}
		}, fault(symbols.PClass, cInner, api.ErrArity)},
		{"the first local, not the first rule", func(p *api.Program) {
			p.Methods[mPlus].Locals = []api.Local{{Name: "a", Flags: api.Var}, {Name: ""}}
		}, fault(symbols.PMethod, mPlus, api.ErrInvalid)},
		{"a local with both faults", func(p *api.Program) {
			p.Methods[mPlus].Locals = []api.Local{{Name: "a"}, {Name: "", Flags: api.Var}}
		}, fault(symbols.PMethod, mPlus, api.ErrName)},
		{"locals ahead of equal parameters", func(p *api.Program) {
			p.Methods[mPlus].Locals = []api.Local{{Name: "a"}, {Name: "a"}, {Name: "", Flags: 0}}
		}, fault(symbols.PMethod, mPlus, api.ErrName)},
		{"an abstract function that overrides, in no list", func(p *api.Program) {
			p.Methods[mCircleArea].Owner, p.Methods[mCircleArea].Flags, p.Methods[mCircleArea].Body = -1, api.Abstract|api.Override, nil
			p.Classes[cCircle].Methods = nil
		}, fault(symbols.PMethod, mCircleArea, api.ErrAbstract)},
		{"an earlier method by a later rule", func(p *api.Program) {
			p.Methods[mLess].Params = 13
			p.Methods[mDeep].Name = ""
		}, fault(symbols.PMethod, mLess, api.ErrArity)},
		{"fields ahead of type parameters and members", func(p *api.Program) {
			p.TParams[0].Name, p.Types[0].Name, p.Fields[fV].Name = "", "", ""
		}, fault(symbols.PField, fV, api.ErrName)},
		{"type parameters ahead of type members", func(p *api.Program) {
			p.TParams[tPlusT].Name, p.Types[0].Name = "", ""
		}, fault(symbols.PTParam, tPlusT, api.ErrName)},
		{"all parts ahead of equal names", func(p *api.Program) {
			p.Classes[cBase].Name, p.Types[yEndOther].Arity = "Shape", -1
		}, fault(symbols.PTypeMember, yEndOther, api.ErrRange)},
		{"equal names: classes, fields, methods, type members, type parameters", func(p *api.Program) {
			p.TParams[tBaseB].Name, p.Types[yEndOther].Name, p.Methods[mArea].Name, p.Fields[fN].Name = "A", "Unit", "name", "x"
		}, fault(symbols.PField, fN, api.ErrTwice)},
		{"without the fields", func(p *api.Program) {
			p.TParams[tBaseB].Name, p.Types[yEndOther].Name, p.Methods[mArea].Name = "A", "Unit", "name"
		}, fault(symbols.PMethod, mArea, api.ErrTwice)},
		{"without the methods", func(p *api.Program) {
			p.TParams[tBaseB].Name, p.Types[yEndOther].Name, p.Main = "A", "Unit", 77
		}, fault(symbols.PTypeMember, yEndOther, api.ErrTwice)},
		{"type parameters ahead of the main method", func(p *api.Program) {
			p.TParams[tBaseB].Name, p.Main = "A", 77
		}, fault(symbols.PTParam, tBaseB, api.ErrTwice)},
		{"a list in another order than the table", func(p *api.Program) {
			p.Classes[cBase].TParams, p.TParams[tBaseB].Name = []int{tBaseB, tBaseA}, "A"
		}, fault(symbols.PTParam, tBaseB, api.ErrTwice)},
	} {
		p := sample()
		c.edit(&p)
		wantFault(t, c.what, p, c.want)
	}
}
