package types_test

import (
	"math/rand"
	"slices"
	"strings"
	"testing"

	"newel/api"
	"newel/types"
)

// written are types of the sample and their texts.
type written struct {
	t    api.Type
	text string
}

func writtenTypes() []written {
	x := local(0)
	return []written{
		{anyType, "Any"}, {nothing, "Nothing"}, {null, "Null"}, {unit, "Unit"}, {of(api.TBoolean), "Boolean"}, {of(api.TChar), "Char"}, {integer, "Int"}, {long, "Long"}, {text, "String"},
		{class(0), "A[]"}, {class(1, integer), "B[Int]"}, {class(2, integer, class(0), param(3)), "C[Int, A[], F3'3]"}, {class(3), "O#[]"}, {class(4, text), "O#.D[String]"}, {class(5), "O#.D.P#[]"}, {class(6), "O#.D.P#.E[]"}, {class(7), "&[]"}, {class(8), "&.=>#[]"}, {class(1, wild(nothing, integer)), "B[(? >: Nothing <: Int)]"},
		{param(0), "T0'0"}, {param(4), "T4'4"}, {apply(param(7), integer), "?'7(Int)"}, {member(x, 0), "x@0.t'0"}, {member(this(1), 1), "this(B).u'1"}, {this(0), "this(A)"}, {this(3), "this(O#)"}, {this(6), "this(O#.D.P#.E)"}, {this(8), "this(&.=>#)"}, {x, "x@0"}, {local(2), "ys@2"}, {field(x, 0), "x@0.a@0"}, {field(field(this(0), 1), 0), "this(A).b@1.a@0"}, {member(field(x, 1), 0), "x@0.b@1.t'0"},
		{and(integer, text), "(Int & String)"}, {and(integer, text, unit), "(Int & String & Unit)"}, {or(integer, text), "(Int | String)"}, {or(and(integer, text), or(unit, unit), unit), "((Int & String) | (Unit | Unit) | Unit)"},
		{fun(integer), "(() => Int)"}, {fun(text, integer), "((String) => Int)"}, {fun(unit, text, integer), "((Unit, String) => Int)"}, {fun(fun(integer), integer), "(((() => Int)) => Int)"}, {fun(fun(integer, integer), fun(integer, integer)), "((((Int) => Int)) => ((Int) => Int))"}, {fun(and(integer, text), text), "(((Int & String)) => String)"}, {and(fun(integer, text), text), "(((Int) => String) & String)"}, {fun(byName(integer), repeat(text), unit), "(((=> Int), (String *)) => Unit)"},
		{array(array(integer)), "Array(Array(Int))"}, {byName(integer), "(=> Int)"}, {repeat(integer), "(Int *)"}, {byName(fun(integer)), "(=> (() => Int))"}, {repeat(fun(integer, integer)), "(((Int) => Int) *)"},
		{lambda(1, bound(0, 0)), "{1 => #0^0}"}, {lambda(12, fun(bound(11, 0), bound(10, 0))), "{12 => ((#11^0) => #10^0)}"}, {apply(lambda(2, apply(lambda(1, bound(1, 1)), bound(0, 0))), text, unit), "{2 => {1 => #1^1}(#0^0)}(String, Unit)"}, {apply(param(6), integer, text), "M6'6(Int, String)"}, {apply(member(x, 1), integer, text), "x@0.u'1(Int, String)"},
		{match(1, integer, class(1, bound(0, 0)), bound(0, 0)), "(Int match 1 {B[#0^0] => #0^0})"}, {match(0, fun(integer), integer, text, anyType, nothing), "((() => Int) match 0 {Int => String} {Any => Nothing})"}, {match(12, match(0, unit, unit, unit), unit, unit), "((Unit match 0 {Unit => Unit}) match 12 {Unit => Unit})"},
		{refine("t", class(1, integer), nothing, anyType), "(B[Int] with t >: Nothing <: Any)"}, {refine(">:", integer, text, unit), "(Int with >: >: String <: Unit)"}, {refine("<:", refine("=>", integer, integer, integer), text, unit), "((Int with => >: Int <: Int) with <: >: String <: Unit)"},
		{variable(0), "?0"}, {variable(99), "?99"}, {and(variable(3), variable(10)), "(?3 & ?10)"}, {fun(variable(1), variable(2)), "((?1) => ?2)"},
	}
}

// P7.4: the texts of types, and that they are read.
func TestText(t *testing.T) {
	env := sample()
	for _, w := range writtenTypes() {
		if got, e := types.Text(env, w.t); e != api.OK || got != w.text {
			t.Errorf("%s: %q, %v, want %q", show(w.t), got, e, w.text)
		}
		if got, f := types.Read(env, w.text); f.Code != api.OK || !same(got, w.t) {
			t.Errorf("%q: %s, %v, want %s", w.text, show(got), f, show(w.t))
		}
	}
	for _, u := range accepted() {
		text, e := types.Text(env, u)
		if e != api.OK {
			t.Errorf("%s: %v", show(u), e)
		}
		if got, f := types.Read(env, text); f.Code != api.OK || !same(got, u) {
			t.Errorf("%q: %s, %v, want %s", text, show(got), f, show(u))
		}
	}
}

// P7.4: the errors of Text: those of Check, of the names of classes, and the
// limit.
func TestTextErrors(t *testing.T) {
	env := sample()
	for _, r := range refused() {
		if got, e := types.Text(env, r.t); e != r.want || got != "" {
			t.Errorf("%s: %q, %v, want %v", show(r.t), got, e, r.want)
		}
	}
	env.P.Classes[3].Owner = 6
	env.P.TParams[0].Name = strings.Repeat("a", 33000)
	for i, c := range []struct {
		t    api.Type
		want api.Errno
	}{
		{class(3), api.ErrCycle}, {class(4, integer), api.ErrCycle}, {this(5), api.ErrCycle}, {array(class(6)), api.ErrCycle}, {class(0), api.OK}, {fun(class(6), of(-1)), api.ErrKind}, {member(this(3), 0), api.ErrCycle}, {fun(class(6), param(99)), api.ErrRange},
		{param(0), api.OK}, {and(param(0), param(0)), api.ErrLimit}, {and(param(0), param(0), class(3)), api.ErrCycle}, {and(class(3), param(0), param(0)), api.ErrCycle}, {and(param(0), param(0), class(0)), api.ErrLimit}, {and(times(20, and(times(20, param(0))...))...), api.ErrLimit},
	} {
		if got, e := types.Text(env, c.t); e != c.want || e != api.OK && got != "" {
			t.Errorf("%d: %d bytes, %v, want %v", i, len(got), e, c.want)
		}
	}
	for _, n := range []int{1<<16 - 2, 1<<16 - 1, 1 << 16} {
		env.P.TParams[0].Name = strings.Repeat("a", n)
		want := api.OK
		if n+2 > 1<<16 {
			want = api.ErrLimit
		}
		if got, e := types.Text(env, param(0)); e != want || e == api.OK && got != env.P.TParams[0].Name+"'0" {
			t.Errorf("a name of %d bytes: %v, want %v", n, e, want)
		}
	}
	huge := sample()
	huge.P.Classes[0].Name = strings.Repeat("a", 1<<24)
	if got, e := types.Text(huge, and(times(20, and(times(20, and(times(4, class(0))...))...))...)); e != api.ErrLimit || got != "" {
		t.Errorf("long names: %v", e)
	}
}

// P7.4: texts that no type of the sample has.
func TestReadErrors(t *testing.T) {
	env := sample()
	for _, s := range []string{
		"", " ", "Int ", " Int", "int", "Ints", "Any.", "TNone", "(", ")", "()", "(Int)", "(Int, Int)", "((Int))", "(()) ", "Int)", "Int, Int", "(Int", "()()", "(Int)(Int)",
		"A", "A[", "A]", "A[Int]", "A[]]", "A[,]", "A[ ]", "B", "B[]", "B[Int, Int]", "B[Int,Int]", "B[Int", "B[Int,", "B[Int, ]", "B[ Int]", "C[Int, Int, Int]", "O[]", "O#", "O.D[Int]", "D[Int]", "O#D[Int]", "#[]", ".A[]", "A.[]", "A#[]", "O##[]", "O#.O#[]", "B[(? >: Nothing  <: Int)]", "B[(? <: Int)]", "(? >: Nothing <: Int)", "B[(? >: Nothing <: (? >: Nothing <: Int))]", "B[?]", "B[(?>: Nothing <: Int)]",
		"T0", "T0'", "T0'1", "T1'0", "T0'00", "T0'+0", "T0'-0", "T0' 0", "T'0", "'0", "T0'8", "T0'99999999999999999999", "T0'0x", "T0'0'0", "x'0", "x@", "x@1", "x@00", "x0", "y@0", "w@4", "l@3", "x@5", "x@0.", "x@0.t", "x@0.t'", "x@0.t'1", "x@0.u'0", "x@0.t@0", "x@0.v@2", "x@0.z@3", "x@0.b'1", "x@0.a@0.", "x@0..a@0", "Int.t'0", "B[Int].t'0", "(Int & Int).t'0", "x@0.t'0.t'0", "?'7.t'0", "this(B)u'0", "this(B.t'0", "this()", "this(b)", "this(B[])", "this(O)", "this[A]", "this(A)'0", "this", "This(A)",
		"(Int &Int)", "(Int & Int", "(Int & )", "( & Int)", "(Int & Int | Int)", "(Int | Int & Int)", "(Int&Int)", "(Int ^ Int)", "Int & Int", "(Int | )", "(& )", "(Int & Int & )", "(Int & Int) ", "(" + strings.Repeat("Int & ", 20) + "Int)", "(F3'3 & Int)",
		"(() =>Int)", "( => Int)", "(()=> Int)", "() => Int", "(Int => Int)", "((Int) => )", "((Int), Int) => Int)", "((Int,) => Int)", "((Int Int) => Int)", "((Int) => Int", "(((Int) => Int)", "((Int) => Int) => Int", "(() => ())", "(() => (Int, Int))", "(()) => Int)", "((()) => Int)", "(((Int)) => Int)", "((Int)(Int) => Int)", "((Int *), Int) => Int)", "(((Int *), Int) => Int)", "(() => (Int *))", "(() => (=> Int))", "((" + strings.Repeat("Int, ", 12) + "Int) => Int)", "((Int) & Int)", "(() & Int)", "((Int, Int) | Int)", "((Int) *)", "((Int) match 0 {Int => Int})", "((Int) with t >: Int <: Int)",
		"Array()", "Array(Int", "Array(Int, Int)", "Array[Int]", "Array Int", "Array", "array(Int)", "Array(F3'3)", "Array((=> Int))", "Array((Int *))", "Array(Array(Int)", "(=> )", "(=>Int)", "(=> Int", "(=> Int, Int)", "(=> (=> Int))", "( *)", "(Int*)", "(Int * )", "(Int *", "(Int * *)", "((Int *) *)",
		"{1 => #0^1}", "{0 => Int}", "{13 => Int}", "{01 => Int}", "{ => Int}", "{1 => }", "{1 => Int", "{1=> Int}", "{-1 => Int}", "{1 => #1^0}", "{1 => {1 => Int}}", "{1 => Int}(Int, Int)", "{1 => Int}()", "{1 => Int}(Int", "{1 => Int}(Int,Int)", "{Int => Int}", "#0^0", "#0", "#", "#0^", "#^0", "#0^0^0", "{1 => #0^00}", "{1 => #00^0}", "{1 => #0 ^0}", "Int(Int)", "T0'0(Int)", "F3'3()", "F3'3(F3'3)", "F3'3(Int, Int)", "F3'3((=> Int))", "(Int match {Int => Int})", "(Int match 0)", "(Int match 0{Int => Int})", "(Int match 0 {Int})", "(Int match 0 {Int => Int)", "(Int match 0 {Int => Int}", "(Int match 0 {Int => Int}{Int => Int})", "(Int match 13 {Int => Int})", "(Int match 00 {Int => Int})", "(Int match 0 {#0^0 => Int})", "(Int match 0  {Int => Int})", "(Int match 1 {Int => #1^0})", "(Int match 0 {Int, Int => Int})", "(Int match 0 {Int => Int, Int})", "(Int match 0" + strings.Repeat(" {Int => Int}", 21) + ")",
		"(Int with >: Int <: Int)", "(Int with t <: Int >: Int)", "(Int with t >: Int)", "(Int with t >: Int <: Int", "(Int with 1 >: Int <: Int)", "(Int with t+ >: Int <: Int)", "(Int with  t >: Int <: Int)", "(Int with a.b >: Int <: Int)", "(Int with t >:Int <: Int)", "(Int with " + strings.Repeat("t", 65) + " >: Int <: Int)", "(Int with t >: F3'3 <: Int)", "?", "??", "?00", "?100", "?-1", "?+1", "?1'0", "? 1", "?a", "?1(Int)", "?1.t'0", "?0x1",
		"\x00", "\xff", "Int\n", "é", "A[]\x00", strings.Repeat("(", 1000), strings.Repeat("(", 1<<16), strings.Repeat("Array(", 65) + "Int" + strings.Repeat(")", 65), strings.Repeat("Array(", 64) + "Int" + strings.Repeat(")", 64), strings.Repeat("{1 => ", 10000), strings.Repeat("#", 1<<16), "x@0" + strings.Repeat(".b@1", 64), "x@0" + strings.Repeat(".b@1", 16000), strings.Repeat("a", 1<<16), "C[" + strings.Repeat("Int, ", 13000) + "Int]", "(" + strings.Repeat("Int | ", 10000) + "Int)", "O#" + strings.Repeat(".D", 30000) + "[]",
	} {
		if got, f := types.Read(env, s); f != (api.Fault{Code: api.ErrSyntax}) || !same(got, api.Type{}) {
			t.Errorf("%.80q: %s, %v", s, show(got), f)
		}
	}
	for _, s := range []string{strings.Repeat("a", 1<<16+1), "Int" + strings.Repeat(" ", 1<<16), strings.Repeat("(", 1<<20)} {
		if got, f := types.Read(env, s); f != (api.Fault{Code: api.ErrLimit}) || !same(got, api.Type{}) {
			t.Errorf("%d bytes: %s, %v", len(s), show(got), f)
		}
	}
}

// P7.4: of several classes with a full name the first one counts; classes whose
// names go round have none.
func TestReadNames(t *testing.T) {
	env := sample()
	env.P.Classes = append(env.P.Classes, api.Class{Name: "A", Owner: -1}, api.Class{Name: "B", Owner: -1}, api.Class{Name: "R", Owner: 11}, api.Class{Name: "S", Owner: 99})
	for i, c := range []struct {
		text string
		want api.Type
	}{
		{"A[]", class(0)}, {"this(A)", this(0)}, {"B[]", api.Type{}}, {"B[Int]", class(1, integer)}, {"R[]", api.Type{}}, {"R.R[]", api.Type{}}, {"[]", api.Type{}}, {"S[]", class(12)},
	} {
		got, f := types.Read(env, c.text)
		if !same(got, c.want) || (f.Code == api.OK) != (c.want.Kind != 0) {
			t.Errorf("%d: %q: %s, %v", i, c.text, show(got), f)
		}
	}
	env = sample()
	slices.Reverse(env.P.Classes)
	if got, f := types.Read(env, "A[]"); f.Code != api.OK || !same(got, class(8)) {
		t.Errorf("the last class: %s, %v", show(got), f)
	}
	for _, s := range []string{"A[]", "x@0", "T0'0", "x@0.t'0", "this(A)"} {
		if got, f := types.Read(api.Env{}, s); f.Code != api.ErrSyntax {
			t.Errorf("%q without a program: %s, %v", s, show(got), f)
		}
	}
	if got, f := types.Read(api.Env{}, "((Int) => ?3)"); f.Code != api.OK || !same(got, fun(integer, variable(3))) {
		t.Errorf("without a program: %s, %v", show(got), f)
	}
}

// P7.4: names of all bytes that names may have.
func TestReadNameBytes(t *testing.T) {
	for _, name := range []string{"abcdefghijklmnopqrstuvwxyz", "ABCDEFGHIJKLMNOPQRSTUVWXYZ", "_0123456789", "$9876543210", "+-*/%<>=!&|^~:?", "?:~^|&!=><%/*-+", strings.Repeat("b", 64)} {
		env := sample()
		env.P.Classes[3].Name, env.P.TParams[0].Name, env.P.Types[0].Name, env.P.Fields[0].Name = name, name, name, name
		env.Locals[0].Name = name
		for _, u := range []api.Type{class(3), class(4, integer), this(3), param(0), local(0), field(local(0), 0), member(local(0), 0), refine(name, integer, integer, integer), and(class(3), local(0)), fun(param(0), this(3))} {
			text, e := types.Text(env, u)
			if got, f := types.Read(env, text); e != api.OK || f.Code != api.OK || !same(got, u) {
				t.Errorf("%q: %s, %v, %v", text, show(got), f, e)
			}
		}
	}
}

// P7.4, P7.5: Read of Text is the type; a text with a change is that of the type
// that is read, if there is one.
func TestReadText(t *testing.T) {
	for seed := range int64(1200) {
		r := rand.New(rand.NewSource(seed))
		p := rightProgram(r)
		env := randomEnv(r, p)
		s := everything(r, env)
		for range 6 {
			u := s.of(max(0, r.Intn(8)-5), 4, nil)
			text, e := types.Text(env, u)
			if e != types.Check(env, u) && e != api.ErrLimit {
				t.Fatalf("seed %d: %s: %v", seed, show(u), e)
			}
			if e != api.OK {
				continue
			}
			if got, f := types.Read(env, text); f.Code != api.OK || !same(got, u) {
				t.Fatalf("seed %d: %q: %s, %v, want %s", seed, text, show(got), f, show(u))
			}
			checkRead(t, env, edited(r, text))
		}
	}
}

// edited returns a text with a random change.
func edited(r *rand.Rand, s string) string {
	i, k := r.Intn(len(s)), r.Intn(len(s))
	i, k = min(i, k), max(i, k)
	switch r.Intn(5) {
	case 0:
		return s[:i] + s[min(i+1, len(s)):]
	case 1:
		return s[:i] + string("()[]{}#^@'.,?=><:&| *0123aAZ"[r.Intn(28)]) + s[i:]
	case 2:
		return s[:i] + string("()[]{}#^@'.,?=><:&| *0123aAZ"[r.Intn(28)]) + s[i+1:]
	case 3:
		return s[:i] + s[k:]
	}
	return s[:k] + s[i:]
}

// checkRead checks what Read says of a text.
func checkRead(t *testing.T, env api.Env, s string) {
	t.Helper()
	got, f := types.Read(env, s)
	switch f {
	case api.Fault{}:
		if text, e := types.Text(env, got); e != api.OK || text != s {
			t.Fatalf("%q is read as %s, whose text is %q, %v", s, show(got), text, e)
		}
	case api.Fault{Code: api.ErrSyntax}, api.Fault{Code: api.ErrLimit}:
		if !same(got, api.Type{}) || (f.Code == api.ErrLimit) != (len(s) > api.MaxText) {
			t.Fatalf("%q: %s, %v", s, show(got), f)
		}
	default:
		t.Fatalf("%q: %v", s, f)
	}
}

// P7.5: types at the limits are read.
func TestReadDeep(t *testing.T) {
	env := sample()
	for depth := 2; depth <= 64; depth++ {
		l := []api.Type{chain(depth, integer), chain(depth, class(0))}
		shapes := []func(t api.Type) api.Type{
			func(t api.Type) api.Type { return fun(t, integer) }, func(t api.Type) api.Type { return fun(t) }, func(t api.Type) api.Type { return fun(integer, t) }, func(t api.Type) api.Type { return and(t, integer) }, func(t api.Type) api.Type { return or(integer, t) }, func(t api.Type) api.Type { return class(1, t) },
			func(t api.Type) api.Type { return apply(lambda(1, integer), t) }, func(t api.Type) api.Type { return refine("t", t, integer, integer) }, func(t api.Type) api.Type { return match(0, t, integer, integer) }, func(t api.Type) api.Type { return match(0, integer, integer, t) },
		}
		for _, shape := range shapes {
			u := integer
			for types.Depth(shape(u)) <= depth && types.Depth(u) < types.Depth(shape(u)) {
				u = shape(u)
			}
			l = append(l, u)
		}
		for _, u := range l {
			text, e := types.Text(env, u)
			if got, f := types.Read(env, text); e != api.OK || f.Code != api.OK || !same(got, u) {
				t.Fatalf("depth %d: %.200q: %v, %v", depth, text, e, f)
			}
		}
	}
}
