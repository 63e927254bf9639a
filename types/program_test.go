package types_test

import (
	"math/rand"
	"slices"
	"testing"

	"newel/api"
	"newel/symbols"
	"newel/types"
)

// edit is a change of the sample, and the fault that it makes.
type edit struct {
	name   string
	change func(p *api.Program)
	want   symbols.Fault
}

func parentOf(c int, t api.Type) func(p *api.Program) {
	return func(p *api.Program) { p.Classes[c].Parents = append(p.Classes[c].Parents, t) }
}

func fieldType(f int, t api.Type) func(p *api.Program) {
	return func(p *api.Program) { p.Fields[f].Type = t }
}

func paramBounds(k int, lo, hi api.Type) func(p *api.Program) {
	return func(p *api.Program) { p.TParams[k].Lo, p.TParams[k].Hi = lo, hi }
}

func memberBounds(k int, lo, hi api.Type) func(p *api.Program) {
	return func(p *api.Program) { p.Types[k].Lo, p.Types[k].Hi = lo, hi }
}

func localType(m, k int, t api.Type) func(p *api.Program) {
	return func(p *api.Program) { p.Methods[m].Locals[k].Type = t }
}

func result(m int, t api.Type) func(p *api.Program) {
	return func(p *api.Program) { p.Methods[m].Result = t }
}

// trait makes a class of the sample a trait.
func trait(c int, then func(p *api.Program)) func(p *api.Program) {
	return func(p *api.Program) { p.Classes[c].Kind = api.IsTrait; then(p) }
}

// paramFlags gives locals of the method m of the sample flags.
func paramFlags(flags ...int) func(p *api.Program) {
	return func(p *api.Program) {
		for i, f := range flags {
			p.Methods[0].Locals[i].Flags = f
		}
	}
}

func both(l ...func(p *api.Program)) func(p *api.Program) {
	return func(p *api.Program) {
		for _, change := range l {
			change(p)
		}
	}
}

func edits() []edit {
	part := func(part, index int, code api.Errno) symbols.Fault {
		return symbols.Fault{Part: part, Index: index, Code: code}
	}
	inClass := func(code api.Errno) symbols.Fault { return part(symbols.PClass, 4, code) }
	inField := func(i int, code api.Errno) symbols.Fault { return part(symbols.PField, i, code) }
	inParam := func(i int, code api.Errno) symbols.Fault { return part(symbols.PTParam, i, code) }
	inMember := func(i int, code api.Errno) symbols.Fault { return part(symbols.PTypeMember, i, code) }
	inMethod := func(i int, code api.Errno) symbols.Fault { return part(symbols.PMethod, i, code) }
	right := symbols.Fault{}
	l := []edit{
		{"symbols", func(p *api.Program) { p.Classes[3].Name = "" }, part(symbols.PClass, 3, api.ErrName)},
		{"symbols first", both(parentOf(0, class(0, of(-1))), func(p *api.Program) { p.Main = 9 }), part(symbols.PClass, 0, api.ErrArity)},
		{"symbols of Main", both(fieldType(0, of(-1)), func(p *api.Program) { p.Main = 9 }), part(symbols.PMain, 9, api.ErrRange)},
		{"the limit of symbols", func(p *api.Program) { p.Fields = append(p.Fields, make([]api.Field, 500)...) }, symbols.Fault{Code: api.ErrLimit}},
		{"a right parent", parentOf(4, class(0)), right}, {"a parent with arguments", trait(1, parentOf(4, class(1, param(4)))), right}, {"this of the object around in a parent", trait(1, parentOf(4, class(1, this(3)))), right}, {"a wild in an argument", trait(1, parentOf(4, class(1, class(1, wild(nothing, anyType))))), right},
		{"a parent with an error", trait(1, parentOf(4, class(1, of(-1)))), inClass(api.ErrKind)}, {"a parent with a name", parentOf(4, setName(class(0), "a")), inClass(api.ErrForm)}, {"a local in a parent", trait(1, parentOf(4, class(1, local(0)))), inClass(api.ErrRange)}, {"an argument of another arity", trait(1, parentOf(4, class(1, param(3)))), inClass(api.ErrArity)}, {"a by-name argument", trait(1, parentOf(4, class(1, byName(integer)))), inClass(api.ErrInvalid)},
		{"TAny with an argument", func(p *api.Program) { p.Classes[4].Parents[0] = of(api.TAny, integer) }, inClass(api.ErrForm)},
		{"a wild argument of a parent", trait(1, parentOf(4, class(1, wild(nothing, anyType)))), inClass(api.ErrInvalid)}, {"another class's parameter in a parent", trait(1, parentOf(4, class(1, param(0)))), inClass(api.ErrInvalid)}, {"a method's parameter in a parent", trait(1, parentOf(4, class(1, param(5)))), inClass(api.ErrInvalid)}, {"a function's parameter in a parent", trait(1, parentOf(4, class(1, apply(param(7), integer)))), inClass(api.ErrInvalid)}, {"this in a parent", trait(1, parentOf(4, class(1, this(4)))), inClass(api.ErrInvalid)}, {"this of another class in a parent", trait(1, parentOf(4, class(1, array(this(0))))), inClass(api.ErrInvalid)}, {"a variable in a parent", trait(1, parentOf(4, class(1, variable(0)))), inClass(api.ErrInvalid)},
		{"this of an object in its parent", func(p *api.Program) {
			p.Classes[1].Kind = api.IsTrait
			p.Classes[3].Parents = append(p.Classes[3].Parents, class(1, this(3)))
		}, part(symbols.PClass, 3, api.ErrInvalid)},
		{"two parents", both(func(p *api.Program) { p.Classes[1].Kind = api.IsTrait }, parentOf(4, class(0)), parentOf(4, class(1, this(4)))), inClass(api.ErrInvalid)},

		{"the class's parameter in a field", fieldType(1, array(param(0))), right}, {"this in a field", fieldType(1, this(1)), right}, {"another arity inside of a field", fieldType(1, class(2, integer, integer, lambda(1, integer))), right},
		{"no type of a field", fieldType(0, api.Type{}), inField(0, api.ErrKind)}, {"a local in a field", fieldType(1, local(0)), inField(1, api.ErrRange)}, {"a type function as a field", fieldType(1, lambda(1, integer)), inField(1, api.ErrArity)}, {"a type member as a field", fieldType(1, member(this(1), 1)), inField(1, api.ErrArity)}, {"a by-name field", fieldType(2, byName(integer)), inField(2, api.ErrInvalid)}, {"a repeated field", fieldType(2, repeat(integer)), inField(2, api.ErrInvalid)}, {"a by-name parameter in a field", fieldType(2, fun(byName(integer), repeat(integer), integer)), right},
		{"another class's parameter in a field", fieldType(0, param(0)), inField(0, api.ErrInvalid)}, {"a method's parameter in a field", fieldType(0, param(5)), inField(0, api.ErrInvalid)}, {"a function's parameter in a field", fieldType(0, apply(param(7), integer)), inField(0, api.ErrInvalid)}, {"this of another class in a field", fieldType(0, this(1)), inField(0, api.ErrInvalid)}, {"this of an object elsewhere in a field", fieldType(0, this(3)), inField(0, api.ErrInvalid)}, {"a variable in a field", fieldType(0, or(integer, variable(1))), inField(0, api.ErrInvalid)},
		{"a wild in a field", fieldType(0, class(1, wild(nothing, anyType))), right}, {"a prefix in a field", fieldType(0, member(field(this(0), 1), 0)), right}, {"an unstable prefix", fieldType(0, member(field(this(0), 2), 0)), inField(0, api.ErrInvalid)},
		{"a field that is too deep", fieldType(0, chain(65, integer)), inField(0, api.ErrDepth)}, {"a field that is too big", fieldType(0, wide(2001)), inField(0, api.ErrLimit)},

		{"bounds that mention each other", paramBounds(1, param(2), array(param(1))), right}, {"bounds of a type function", paramBounds(3, lambda(1, integer), lambda(1, anyType)), right}, {"this in a bound", paramBounds(4, this(4), or(this(3), param(4))), right},
		{"no lower bound", paramBounds(0, api.Type{}, anyType), inParam(0, api.ErrKind)}, {"no upper bound", paramBounds(0, nothing, api.Type{}), inParam(0, api.ErrKind)}, {"a local in a bound of a method", paramBounds(5, nothing, local(0)), inParam(5, api.ErrRange)}, {"a local in a lower bound", paramBounds(5, local(0), anyType), inParam(5, api.ErrRange)}, {"a lower bound of another arity", paramBounds(0, lambda(1, integer), anyType), inParam(0, api.ErrArity)}, {"an upper bound of another arity", paramBounds(3, nothing, integer), inParam(3, api.ErrArity)}, {"TAny below a type function", paramBounds(3, anyType, anyType), inParam(3, api.ErrArity)}, {"TNothing above a type function", paramBounds(3, nothing, nothing), inParam(3, api.ErrArity)}, {"a lower bound with another number", paramBounds(3, lambda(2, integer), anyType), inParam(3, api.ErrArity)}, {"TNothing with a symbol", paramBounds(3, setSym(nothing, 1), anyType), inParam(3, api.ErrForm)},
		{"TNothing alone exempts nothing above", paramBounds(3, nothing, lambda(2, integer)), inParam(3, api.ErrArity)}, {"TAny exempts nothing below", paramBounds(3, lambda(2, integer), anyType), inParam(3, api.ErrArity)},
		{"a by-name lower bound", paramBounds(0, byName(integer), anyType), inParam(0, api.ErrInvalid)}, {"a repeated upper bound", paramBounds(0, nothing, repeat(integer)), inParam(0, api.ErrInvalid)}, {"another class's parameter in a bound", paramBounds(0, nothing, param(1)), inParam(0, api.ErrInvalid)}, {"a variable in a bound", paramBounds(0, variable(0), anyType), inParam(0, api.ErrInvalid)},
		{"the method's and the class's in its bounds", paramBounds(5, and(param(4), this(4)), apply(param(6), param(5), this(3))), right}, {"the method's in the class's bounds", paramBounds(4, nothing, param(5)), inParam(4, api.ErrInvalid)}, {"a class around in a method's bounds", both(func(p *api.Program) {
			p.Methods[0].Owner = 6
			p.Classes[4].Methods, p.Classes[6].Methods = nil, []int{0}
		}, result(0, unit), localType(0, 4, integer), paramBounds(5, nothing, param(4))), inParam(5, api.ErrInvalid)}, {"another function's in a function's bounds", paramBounds(7, nothing, lambda(1, param(5))), inParam(7, api.ErrInvalid)}, {"this in a function's bounds", paramBounds(7, nothing, lambda(1, this(3))), inParam(7, api.ErrInvalid)}, {"the function's in its bounds", paramBounds(7, param(7), lambda(1, apply(param(7), bound(0, 0)))), right},

		{"a type member's bounds", memberBounds(0, member(this(1), 0), param(0)), right}, {"a wrong lower bound of a type member", memberBounds(0, fun(), anyType), inMember(0, api.ErrForm)}, {"a wrong upper bound of a type member", memberBounds(1, nothing, local(0)), inMember(1, api.ErrRange)}, {"a type member of another arity", memberBounds(1, integer, anyType), inMember(1, api.ErrArity)}, {"one above of another arity", memberBounds(0, nothing, lambda(1, integer)), inMember(0, api.ErrArity)}, {"an alias of a type function", memberBounds(1, lambda(2, bound(0, 0)), lambda(2, bound(0, 0))), right}, {"a function's parameter in a type member", memberBounds(0, nothing, apply(param(7), integer)), inMember(0, api.ErrInvalid)}, {"a function's parameter in the class's bounds", paramBounds(0, nothing, apply(param(7), integer)), inParam(0, api.ErrInvalid)}, {"a by-name alias", memberBounds(0, byName(integer), byName(integer)), inMember(0, api.ErrInvalid)}, {"a type member out of scope", memberBounds(0, nothing, this(0)), inMember(0, api.ErrInvalid)}, {"no bounds of a type function", memberBounds(1, nothing, anyType), right},

		{"what a method's parameters may be", both(localType(0, 0, fun(param(4), param(5), local(0), local(1), local(2), this(4), this(3), unit)), result(0, fun(local(2), param(4), this(3)))), right},
		{"a wrong local", localType(0, 0, of(99)), inMethod(0, api.ErrKind)}, {"a wrong result", result(1, of(99)), inMethod(1, api.ErrKind)}, {"a local that does not exist", localType(0, 4, local(5)), inMethod(0, api.ErrRange)}, {"a local of another method", result(1, local(0)), inMethod(1, api.ErrRange)}, {"a type function as a local", localType(0, 3, param(6)), inMethod(0, api.ErrArity)}, {"a type function as a result", result(1, param(7)), inMethod(1, api.ErrArity)},
		{"a by-name local", localType(0, 3, byName(integer)), inMethod(0, api.ErrInvalid)}, {"a by-name result", result(0, byName(integer)), inMethod(0, api.ErrInvalid)}, {"a repeated result", result(0, repeat(integer)), inMethod(0, api.ErrInvalid)}, {"a repeated local", localType(0, 4, repeat(integer)), inMethod(0, api.ErrInvalid)}, {"a repeated parameter ahead", localType(0, 1, repeat(integer)), inMethod(0, api.ErrInvalid)}, {"by-name parameters", both(localType(0, 0, byName(integer)), localType(0, 2, byName(integer))), right},
		{"repeated ahead of Using", both(localType(0, 1, repeat(integer)), localType(0, 2, integer), paramFlags(0, 0, api.Using)), right}, {"repeated ahead of several Using", both(localType(0, 0, repeat(integer)), localType(0, 2, integer), paramFlags(0, api.Using|api.Synthetic, api.Using)), right}, {"a repeated Using", paramFlags(0, 0, api.Using), inMethod(0, api.ErrInvalid)}, {"a repeated one behind Using", paramFlags(api.Using, api.Using, 0), right}, {"all Using", paramFlags(api.Using, api.Using, api.Using), inMethod(0, api.ErrInvalid)}, {"a repeated Synthetic", paramFlags(0, 0, api.Synthetic), right},
		{"a by-name Using", both(localType(0, 2, byName(integer)), paramFlags(0, 0, api.Using)), right},
		{"a later local in a parameter", both(localType(0, 3, integer), paramFlags(0, 0, 0, 0), localType(0, 0, local(3))), inMethod(0, api.ErrInvalid)}, {"a local in a result", both(paramFlags(0, 0, 0, 0), result(0, local(3))), inMethod(0, api.ErrInvalid)}, {"a local in a local", both(paramFlags(0, 0, 0, 0, 0), localType(0, 3, local(4)), localType(0, 4, local(3))), right}, {"a local that is Var", localType(0, 4, local(3)), inMethod(0, api.ErrInvalid)},
		{"another method's parameter", result(1, param(5)), inMethod(1, api.ErrInvalid)}, {"a class's parameter in a function", result(1, param(0)), inMethod(1, api.ErrInvalid)}, {"this in a function", result(1, this(3)), inMethod(1, api.ErrInvalid)}, {"a variable in a local", localType(0, 4, variable(0)), inMethod(0, api.ErrInvalid)}, {"a variable in a result", result(0, array(variable(0))), inMethod(0, api.ErrInvalid)},
		{"the function's parameter", result(1, apply(param(7), integer)), right},
	}
	// The method m in the class E: P is an object, and D a class around it.
	inner := func(p *api.Program) {
		p.Methods[0].Owner = 6
		p.Classes[4].Methods, p.Classes[6].Methods = nil, []int{0}
	}
	for _, c := range []struct {
		t             api.Type
		param, inside bool
	}{
		{this(6), true, true}, {this(5), true, true}, {this(4), false, true}, {this(3), true, true}, {this(2), false, false}, {this(8), false, false}, {param(4), false, true}, {param(5), true, true}, {param(0), false, false}, {array(param(4)), false, true}, {apply(param(7), integer), false, false}, {local(0), true, true}, {member(this(4), 0), false, true},
	} {
		for place, allowed := range []bool{c.param, c.inside} {
			want := inMethod(0, api.ErrInvalid)
			if allowed {
				want = right
			}
			change := both(inner, localType(0, 4, integer), localType(0, 3*place, c.t))
			l = append(l, edit{"an inner class " + show(c.t), change, want})
			if place == 0 {
				l = append(l, edit{"the result in an inner class " + show(c.t), both(inner, localType(0, 4, integer), result(0, c.t)), want})
			}
		}
	}
	return l
}

// P7.1: each fault of CheckAll.
func TestCheckAll(t *testing.T) {
	for _, e := range edits() {
		p := sample().P
		e.change(&p)
		if got := types.CheckAll(p); got != e.want {
			t.Errorf("%s: %v, want %v", e.name, got, e.want)
		}
		if got := faultOf(p); got != e.want {
			t.Errorf("%s: the oracle tells %v, want %v", e.name, got, e.want)
		}
	}
	if f := types.CheckAll(api.Program{Main: -1}); f != (symbols.Fault{}) {
		t.Errorf("no program: %v", f)
	}
	if f := types.CheckAll(api.Program{}); f != (symbols.Fault{Part: symbols.PMain, Code: api.ErrRange}) {
		t.Errorf("no main method: %v", f)
	}
}

// P7.1: of two faults of CheckAll the first one counts.
func TestCheckAllOrder(t *testing.T) {
	l := edits()
	for i, a := range l {
		for _, b := range l[i+1:] {
			p := sample().P
			a.change(&p)
			b.change(&p)
			if got, want := types.CheckAll(p), faultOf(p); got != want {
				t.Errorf("%s, %s: %v, want %v", a.name, b.name, got, want)
			}
		}
	}
}

// P7.1: CheckAll of right programs with random changes.
func TestCheckAllRandom(t *testing.T) {
	count := map[symbols.Fault]int{}
	for seed := range int64(600) {
		r := rand.New(rand.NewSource(seed))
		right := rightProgram(r)
		for range 20 {
			p := right
			disturb(r, &p)
			got, want := types.CheckAll(p), faultOf(p)
			if got != want {
				t.Fatalf("seed %d: %v, want %v", seed, got, want)
			}
			want.Index = 0
			count[want]++
		}
	}
	for _, part := range []int{symbols.PClass, symbols.PField, symbols.PTParam, symbols.PTypeMember, symbols.PMethod} {
		for _, code := range []api.Errno{api.ErrKind, api.ErrForm, api.ErrRange, api.ErrArity, api.ErrInvalid} {
			if count[symbols.Fault{Part: part, Code: code}] == 0 {
				t.Errorf("the part %d never has the error %v", part, code)
			}
		}
	}
}

// disturb changes a type of a copy of a program, or puts one elsewhere.
func disturb(r *rand.Rand, p *api.Program) {
	p.Classes = slices.Clone(p.Classes)
	for i := range p.Classes {
		p.Classes[i].Parents = slices.Clone(p.Classes[i].Parents)
	}
	p.Fields, p.TParams, p.Types, p.Methods = slices.Clone(p.Fields), slices.Clone(p.TParams), slices.Clone(p.Types), slices.Clone(p.Methods)
	for i := range p.Methods {
		p.Methods[i].Locals = slices.Clone(p.Methods[i].Locals)
	}
	l := itemsOf(p)
	a, b := l[r.Intn(len(l))], l[r.Intn(len(l))]
	env := randomEnv(r, *p)
	switch r.Intn(5) {
	case 0:
		*a.t = *b.t
	case 1:
		*a.t = everything(r, env).of(max(0, r.Intn(4)-2), 2, nil)
	case 2:
		*a.t = byName(*a.t)
	case 3:
		*a.t = repeat(*a.t)
	case 4:
		*a.t = changed(r, *a.t)
		if len(a.t.Args) > 0 && r.Intn(2) == 0 {
			a.t.Args[r.Intn(len(a.t.Args))] = everything(r, env).proper(1, nil)
		}
	}
}
