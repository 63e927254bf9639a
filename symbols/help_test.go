package symbols_test

import (
	"slices"

	"newel/api"
	"newel/symbols"
)

// builder puts items at the ends of the tables of a program, and of the lists
// of their owners.
type builder struct{ p api.Program }

func newBuilder() *builder {
	return &builder{api.Program{Main: -1}}
}

// parent is a parent of a class with some arguments; below 0: TAny.
func parent(class, args int) api.Type {
	if class < 0 {
		return api.Type{Kind: api.TAny}
	}
	return api.Type{Kind: api.TClass, Sym: class, Args: make([]api.Type, args)}
}

// class adds a class, with TAny as its first parent, and then traits or, as the
// first one, a class.
func (b *builder) class(kind, flags, owner int, name string, parents ...int) int {
	c := api.Class{Name: name, Kind: kind, Flags: flags, Owner: owner}
	if len(parents) == 0 || b.p.Classes[parents[0]].Kind != api.IsClass {
		c.Parents = append(c.Parents, parent(-1, 0))
	}
	for _, i := range parents {
		c.Parents = append(c.Parents, parent(i, len(b.p.Classes[i].TParams)))
	}
	b.p.Classes = append(b.p.Classes, c)
	return len(b.p.Classes) - 1
}

func (b *builder) field(owner, flags int, name string) int {
	b.p.Fields = append(b.p.Fields, api.Field{Name: name, Owner: owner, Flags: flags})
	i := len(b.p.Fields) - 1
	c := &b.p.Classes[owner]
	c.Fields = append(c.Fields, i)
	return i
}

// param adds a field that is a parameter.
func (b *builder) param(owner, flags int, name string) int {
	i := b.field(owner, flags, name)
	c := &b.p.Classes[owner]
	c.Params = append(c.Params, i)
	return i
}

// method adds a method whose locals are parameters.
func (b *builder) method(owner, flags int, name string, params ...string) int {
	m := api.Method{Name: name, Owner: owner, Flags: flags, Params: len(params)}
	for _, s := range params {
		m.Locals = append(m.Locals, api.Local{Name: s})
	}
	if flags&api.Abstract == 0 {
		m.Body = &api.Tree{}
	}
	b.p.Methods = append(b.p.Methods, m)
	i := len(b.p.Methods) - 1
	if owner >= 0 {
		c := &b.p.Classes[owner]
		c.Methods = append(c.Methods, i)
	}
	return i
}

// tparam adds a type parameter of a class, or of a method.
func (b *builder) tparam(class, method, variance int, name string) int {
	b.p.TParams = append(b.p.TParams, api.TypeParam{Name: name, Class: class, Method: method, Variance: variance})
	i := len(b.p.TParams) - 1
	if class >= 0 {
		c := &b.p.Classes[class]
		c.TParams = append(c.TParams, i)
	} else {
		m := &b.p.Methods[method]
		m.TParams = append(m.TParams, i)
	}
	return i
}

func (b *builder) typeMember(owner int, name string) int {
	b.p.Types = append(b.p.Types, api.TypeMember{Name: name, Owner: owner})
	i := len(b.p.Types) - 1
	c := &b.p.Classes[owner]
	c.Types = append(c.Types, i)
	return i
}

// The items of sample.
const (
	cShape  = iota // trait Shape[+A] { type Unit; def area(): _; val name }
	cBase          // sealed abstract class Base[A, -B] extends Any with Shape { def less[T, U](a, b) }
	cCircle        // case class Circle(x, y) extends Base with Shape { lazy val size; var n; override def area() }
	cMain          // object Main { def main(); class Inner { object Deep } }
	cInner
	cDeep
	cMeter // value class Meter(v)
	cEnd   // final class End extends Circle { type Unit; type Other }
	cTrait // trait Trait[A] extends Shape
)

const (
	mArea = iota
	mLess
	mCircleArea
	mMain
	mPlus // a function +[T](x, y), with a local
	mDeep
)

const (
	fName = iota
	fX
	fY
	fSize
	fN
	fV
)

const (
	tShapeA = iota
	tBaseA
	tBaseB
	tTraitA
	tLessT
	tLessU
	tPlusT
)

const (
	yUnit = iota
	yEndUnit
	yEndOther
)

// sample is a right program in which each rule has something to look at.
func sample() api.Program {
	b := newBuilder()
	b.class(api.IsTrait, api.Sealed, -1, "Shape")
	b.tparam(cShape, -1, api.Covariant, "A")
	b.class(api.IsClass, api.Abstract|api.Sealed, -1, "Base", cShape)
	b.tparam(cBase, -1, api.Invariant, "A")
	b.tparam(cBase, -1, api.Contravariant, "B")
	b.class(api.IsClass, api.Case, -1, "Circle", cBase, cShape)
	b.class(api.IsObject, 0, -1, "Main")
	b.class(api.IsClass, api.Private, cMain, "Inner")
	b.class(api.IsObject, api.Final|api.Case, cInner, "Deep")
	b.class(api.IsClass, api.Value|api.Case, -1, "Meter")
	b.class(api.IsClass, api.Final|api.Synthetic, -1, "End", cCircle)
	b.class(api.IsTrait, 0, -1, "Trait", cShape)
	b.tparam(cTrait, -1, api.Invariant, "A")
	b.method(cShape, api.Abstract, "area")
	b.method(cBase, 0, "less", "a", "b")
	b.method(cCircle, api.Override|api.Final, "area")
	b.method(cMain, 0, "main")
	b.method(-1, api.Inline, "+", "x", "y")
	b.method(cDeep, api.Given|api.Private, "deep")
	b.field(cShape, api.Private, "name")
	b.param(cCircle, 0, "x")
	b.param(cCircle, api.Final, "y")
	b.field(cCircle, api.Lazy, "size")
	b.field(cCircle, api.Var|api.Volatile, "n")
	b.param(cMeter, 0, "v")
	b.tparam(-1, mLess, 0, "T")
	b.tparam(-1, mLess, 0, "U")
	b.tparam(-1, mPlus, 0, "T")
	b.typeMember(cShape, "Unit")
	b.typeMember(cEnd, "Unit")
	b.typeMember(cEnd, "Other")
	p := b.p
	p.Methods[mPlus].Locals[1].Flags = api.Using
	p.Methods[mPlus].Locals = append(p.Methods[mPlus].Locals, api.Local{Name: "x", Flags: api.Var | api.Given})
	p.Main = mMain
	return p
}

// copied returns a copy of a program; behind the end of each list lies an
// element that is not the zero value, if the program is not to be changed.
func copied(p api.Program) api.Program {
	q := api.Program{Main: p.Main}
	q.Classes = withSpare(p.Classes, api.Class{Name: "spare"})
	for i := range q.Classes {
		c := &q.Classes[i]
		for _, l := range []*[]int{&c.TParams, &c.Params, &c.Fields, &c.Methods, &c.Types} {
			*l = withSpare(*l, 77)
		}
		c.Parents = withSpare(c.Parents, api.Type{Kind: 77})
		for k := range c.Parents {
			c.Parents[k].Args = withSpare(c.Parents[k].Args, api.Type{Kind: 77})
		}
	}
	q.Methods = withSpare(p.Methods, api.Method{Name: "spare"})
	for i := range q.Methods {
		m := &q.Methods[i]
		m.TParams = withSpare(m.TParams, 77)
		m.Locals = withSpare(m.Locals, api.Local{Name: "spare"})
		if m.Body != nil {
			body := *m.Body
			m.Body = &body
		}
	}
	q.Fields = withSpare(p.Fields, api.Field{Name: "spare"})
	q.TParams = withSpare(p.TParams, api.TypeParam{Name: "spare"})
	q.Types = withSpare(p.Types, api.TypeMember{Name: "spare"})
	return q
}

// withSpare returns a copy of a list with an element behind its end.
func withSpare[E any](list []E, behind E) []E {
	return append(slices.Clone(list), behind)[:len(list)]
}

// spares returns a program whose lists have what lies behind their ends.
func spares(p api.Program) api.Program {
	q := p
	q.Classes = withBehind(p.Classes)
	for i := range q.Classes {
		c := &q.Classes[i]
		for _, l := range []*[]int{&c.TParams, &c.Params, &c.Fields, &c.Methods, &c.Types} {
			*l = withBehind(*l)
		}
		c.Parents = withBehind(c.Parents)
		for k := range c.Parents {
			c.Parents[k].Args = withBehind(c.Parents[k].Args)
		}
	}
	q.Methods = withBehind(p.Methods)
	for i := range q.Methods {
		q.Methods[i].TParams = withBehind(q.Methods[i].TParams)
		q.Methods[i].Locals = withBehind(q.Methods[i].Locals)
	}
	q.Fields, q.TParams, q.Types = withBehind(p.Fields), withBehind(p.TParams), withBehind(p.Types)
	return q
}

// withBehind returns a copy of a list and of the element behind its end.
func withBehind[E any](list []E) []E {
	return slices.Clone(list[:min(len(list)+1, cap(list))])
}

// partNames are the names of the parts, for messages.
var partNames = []string{"-", "class", "method", "field", "type parameter", "type member", "main"}

func fault(part, index int, code api.Errno) symbols.Fault {
	return symbols.Fault{Part: part, Index: index, Code: code}
}
