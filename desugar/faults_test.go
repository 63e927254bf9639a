package desugar_test

import (
	"strings"
	"testing"

	"newel/api"
	"newel/desugar"
	"newel/syntax"
)

// checkFault checks the fault of a tree: what stands at it in a text.
func checkFault(t *testing.T, n syntax.Node, text, at string, code api.Errno) {
	t.Helper()
	out, f := core(n)
	want := fault(max(0, strings.Index(text, at)), code)
	if f != want || !isZero(out) {
		t.Errorf("%s: %v, want %v, %s", text, f, want, form(out))
	}
}

// P5.1 and P5.2: the faults of 2, 3, 5, 8 and 9 of "What is replaced". Each one
// is at the place where the second text stands in the first one.
func TestFaults(t *testing.T) {
	for _, c := range []struct {
		kind, text, at string
		code           api.Errno
	}{
		{"expr", `a + f"x$b"`, `f"`, api.ErrName},
		{"expr", `S""`, `S"`, api.ErrName},
		{"expr", `{ s"a"; ss"a" }`, `ss"`, api.ErrName},
		{"expr", "{ 1 = a }", "1", api.ErrForm},
		{"expr", "{ 1 += a }", "1", api.ErrForm},
		{"expr", "f((a + b) = c)", "(a", api.ErrForm},
		{"expr", "f(-a = b)", "-", api.ErrForm},
		{"expr", "f(a[T] = b)", "a[", api.ErrForm},
		{"expr", "{ this = b }", "this", api.ErrForm},
		{"expr", "f((a = b) = c)", "(a", api.ErrForm},
		{"expr", `f({ a } = p"")`, "{", api.ErrForm},
		{"expr", "{ a; def f = 1; class B }", "def", api.ErrForm},
		{"expr", "{ val x: Int }", "val", api.ErrForm},
		{"expr", "{ var x }", "var", api.ErrForm},
		{"expr", "{ type T = A; a }", "type", api.ErrForm},
		{"expr", "f({ given A = b; a })", "given", api.ErrForm},
		{"expr", "'{ object A; a }", "object", api.ErrForm},
		{"expr", "{ val x = 1; enum E { case A }; a }", "enum", api.ErrForm},
		{"expr", "{ extension (x: Int) def f = 1; a }", "extension", api.ErrForm},
		{"unit", "class A; final enum E { case B }", "final", api.ErrFinal},
		{"unit", "class A; enum E { def f = 1 }", "enum", api.ErrEmpty},
		{"unit", "object O { enum E[A] { } }", "enum", api.ErrEmpty},
		{"unit", "enum E[A] { case B(x: A); case C; case D }", "case C", api.ErrVariance},
		{"unit", "enum E[+A, B] { case C extends E[Int, Int]; case D; case F }", "case D", api.ErrVariance},
		{"unit", "def f(x: A)(using y: B)(z: C)(w: D) = 1", "(z", api.ErrOrder},
		{"unit", "class A(using x: A)()", "()", api.ErrOrder},
		{"unit", "given g(using x: A)(using y: A)(): B = x", "()", api.ErrOrder},
		{"unit", "extension (x: A) def f(using y: A)(z: A) = x", "(z", api.ErrOrder},
		{"unit", "enum E { case C(using x: A)(y: A) }", "(y", api.ErrOrder},
	} {
		checkFault(t, parsed(t, c.kind, c.text), c.text, c.at, c.code)
	}
}

// P5.1: of several faults, the first one in the order in which nodes are
// replaced: a node comes ahead of its kids, and these from left to right.
func TestFaultOrder(t *testing.T) {
	for _, c := range []struct {
		kind, text, at string
		code           api.Errno
	}{
		{"expr", `f(p"", q"")`, `p"`, api.ErrName},
		{"expr", `p"${q""}"`, `p"`, api.ErrName},
		{"expr", `{ p""; def f = 1 }`, "def", api.ErrForm}, // at the block
		{"expr", `{ val x = p""; { class A } }`, `p"`, api.ErrName},
		{"expr", `p"" :: q""`, `p"`, api.ErrName},
		{"expr", `a(p"") += q""`, `p"`, api.ErrName},
		{"expr", `for { x <- p""; if q"" } r""`, `p"`, api.ErrName},
		{"expr", `for { x <- a; y = q""; if p"" } r""`, `q"`, api.ErrName},
		{"expr", `for { x <- a; y = b; if p"" } q""`, `p"`, api.ErrName},
		{"unit", `def f(using x: A)(y: A = p"") = q""`, "(y", api.ErrOrder},
		{"unit", `def f(x: A = p"")(using y: A) = q""`, `p"`, api.ErrName},
		{"unit", "final enum E[A] { case B }", "final", api.ErrFinal},
		{"unit", "final enum E { }", "final", api.ErrFinal},
		{"unit", `enum E(x: Int = p"") { q"" }`, "enum", api.ErrEmpty},
		{"unit", `enum E[A](x: Int = p"") { case A(y: Int = q""); case B }`, "case B", api.ErrVariance},
		{"unit", `enum E { case A(x: Int = p""); q"" }`, `q"`, api.ErrName}, // the classes of cases stand behind the enum
		{"unit", `enum E { case A(x: Int = q""); case B(y: Int = p"") }; val z = r""`, `q"`, api.ErrName},
		{"unit", `extension (x: Int = p"") def f = q""`, `p"`, api.ErrName},
	} {
		checkFault(t, parsed(t, c.kind, c.text), c.text, c.at, c.code)
	}
}

// 8: a case outside of an enum; 5: one in a block. Offsets are those of the
// text forms.
func TestStrayCases(t *testing.T) {
	const stray = `(SEnumCase "A" (SNames) (SLists) (SParents))`
	for _, text := range []string{
		"(SUnit (SImport \"a\") " + stray + ")",
		"(SUnit (SClass \"C\" (SMods) (SNames) (SLists) (SParents) (SBody (XInt) " + stray + " (XInterp \"f\" (XString)))))",
		"(XNew (SParents (SParent (TName \"A\"))) (SBody " + stray + "))",
		"(XBlock (XInterp \"f\" (XString)) " + stray + " (XInt))",
	} {
		checkFault(t, tree(t, text), text, stray, api.ErrForm)
	}
}

// P5.1, P5.2: the fault of syntax.Check, at the node; then the root.
func TestWrongTrees(t *testing.T) {
	at := func(at int, n syntax.Node) syntax.Node {
		n.At = at
		return n
	}
	short := at(5, node(syntax.XInfix, "+", at(6, node(syntax.XName, "a"))))
	name := at(9, node(syntax.XName, "no name"))
	deep := at(7, node(syntax.XThis, ""))
	for range api.MaxNest {
		deep = at(7, node(syntax.XPrefix, "-", deep))
	}
	wide := at(8, node(syntax.XInt, ""))
	for range 3 {
		wide = at(8, node(syntax.XBlock, "", times(30, wide)...))
	}
	loop := at(4, node(syntax.XBlock, "", syntax.Node{}))
	loop.Kids[0] = loop
	unit := func(n syntax.Node) syntax.Node { return at(2, node(syntax.SUnit, "", n)) }
	for _, c := range []struct {
		n          syntax.Node
		unit, expr api.Fault
	}{
		{syntax.Node{Kind: syntax.Kinds, At: 3}, fault(3, api.ErrKind), fault(3, api.ErrKind)},
		{syntax.Node{Kind: -1, At: 3}, fault(3, api.ErrKind), fault(3, api.ErrKind)},
		{short, fault(5, api.ErrForm), fault(5, api.ErrForm)},
		{node(syntax.XPrefix, "-", short), fault(5, api.ErrForm), fault(5, api.ErrForm)},
		{node(syntax.XApply, "", node(syntax.XThis, ""), node(syntax.XNull, ""), name), fault(9, api.ErrName), fault(9, api.ErrName)},
		{unit(short), fault(2, api.ErrForm), fault(2, api.ErrForm)},
		{deep, fault(7, api.ErrDepth), fault(7, api.ErrDepth)},
		{unit(deep), fault(2, api.ErrDepth), fault(2, api.ErrDepth)},
		{wide, fault(8, api.ErrLimit), fault(8, api.ErrLimit)},
		{loop, fault(4, api.ErrDepth), fault(4, api.ErrDepth)},
		{syntax.Node{At: 3}, fault(0, api.ErrKind), fault(0, api.ErrKind)},
		{at(3, node(syntax.PWild, "")), fault(0, api.ErrKind), fault(0, api.ErrKind)},
		{at(3, node(syntax.TName, "A")), fault(0, api.ErrKind), fault(0, api.ErrKind)},
		{at(3, node(syntax.XNamed, "A", node(syntax.XThis, ""))), fault(0, api.ErrKind), fault(0, api.ErrKind)},
		{at(3, node(syntax.SGuard, "", node(syntax.XInterp, "f", node(syntax.XString, "")))), fault(0, api.ErrKind), fault(0, api.ErrKind)},
		{at(3, node(syntax.SLambdaParam, "_", syntax.Node{})), fault(0, api.ErrKind), fault(0, api.ErrKind)},
		{at(3, node(syntax.SUnit, "")), fault(0, api.OK), fault(0, api.ErrKind)},
		{at(3, node(syntax.XThis, "")), fault(0, api.ErrKind), fault(0, api.OK)},
		{at(3, node(syntax.XSuper, "")), fault(0, api.ErrKind), fault(0, api.OK)},
	} {
		for _, call := range []struct {
			f    func(syntax.Node) (syntax.Node, api.Fault)
			want api.Fault
		}{{desugar.Unit, c.unit}, {desugar.Expr, c.expr}} {
			out, f := call.f(c.n)
			if f != call.want || (f.Code != api.OK) != isZero(out) {
				t.Errorf("%s at %d: %v, want %v", syntax.Name(c.n.Kind), c.n.At, f, call.want)
			}
		}
	}
}

// P5.1: what was made is not right: too deep, too many kids, or too many nodes.
func TestMadeWrong(t *testing.T) {
	sum := node(syntax.XName, "a")
	for range 40 {
		sum = node(syntax.XInfix, "+", sum, node(syntax.XName, "b"))
	}
	list := node(syntax.SLists, "", times(4, node(syntax.SParams, ""))...)
	none, mods, names := node(syntax.SNone, ""), node(syntax.SMods, ""), node(syntax.SNames, "")
	def := node(syntax.SDef, "f", mods, names, list, none, none)
	param := node(syntax.SParam, "x", mods, node(syntax.TName, "A"), none)
	enum := func(name string, cases int) syntax.Node {
		one := node(syntax.SEnumCase, "A", names, node(syntax.SLists, ""), node(syntax.SParents, ""))
		n := node(syntax.SClass, name, mods, names, node(syntax.SLists, ""), node(syntax.SParents, ""), node(syntax.SBody, "", times(cases, one)...))
		n.Num = 5
		return n
	}
	unit := func(l ...syntax.Node) syntax.Node { return node(syntax.SUnit, "", l...) }
	call := node(syntax.XApply, "", times(201, node(syntax.XThis, ""))...)
	named := node(syntax.XApply, "", node(syntax.XThis, ""), node(syntax.XNamed, "a", node(syntax.XThis, "")))
	types := node(syntax.SNames, "", times(101, node(syntax.STParam, "A", none, none))...)
	short := node(syntax.SDef, "f", mods, types, node(syntax.SLists, ""), none, none)
	for i, c := range []struct {
		n    syntax.Node
		code api.Errno
	}{
		{sum, api.ErrDepth},
		{unit(node(syntax.SVal, "x", mods, none, sum)), api.ErrDepth},
		{unit(node(syntax.SExtension, "", names, param, def)), api.ErrForm},
		{unit(node(syntax.SExtension, "", types, param, short)), api.ErrForm},
		{unit(enum("E", 199)), api.OK},
		{unit(enum("E", 200)), api.ErrForm},
		{unit(enum("+", 1)), api.ErrName},
		{node(syntax.XBlock, "", times(200, node(syntax.XThis, ""))...), api.OK},
		{node(syntax.XBlock, "", times(200, node(syntax.SImport, "a"))...), api.ErrForm},
		{node(syntax.XAssign, "=", call, node(syntax.XThis, "")), api.ErrForm},
		{node(syntax.XAssign, "=", named, node(syntax.XThis, "")), api.ErrForm},
	} {
		out, f := core(c.n)
		if f != fault(0, c.code) || (c.code != api.OK) != isZero(out) {
			t.Errorf("%d: %v, want %v", i, f, c.code)
		}
	}
}

// bomb makes an expression of few nodes whose core tree has very many.
func bomb() syntax.Node {
	n := node(syntax.XName, "a")
	for range 25 {
		n = node(syntax.XAssign, "+=", node(syntax.XApply, "", node(syntax.XThis, ""), n), node(syntax.XInt, ""))
		n.At = 5
	}
	return n
}

// P5.1, P5.2: the limit on nodes, among the other faults.
func TestLimit(t *testing.T) {
	bad := node(syntax.XInterp, "f", node(syntax.XString, ""))
	bad.At = 7
	apply := func(l ...syntax.Node) syntax.Node {
		return node(syntax.XApply, "", append([]syntax.Node{node(syntax.XThis, "")}, l...)...)
	}
	// sized makes an expression of a number of nodes: an XIf, rows of others,
	// and perhaps one more expression.
	sized := func(size int, last syntax.Node, behind ...syntax.Node) syntax.Node {
		whole := size
		rows := []syntax.Node{node(syntax.XIf, "", node(syntax.XThis, ""), node(syntax.XThis, ""), last)}
		for size -= syntax.Size(apply(append(rows, behind...)...)); size > 0; size -= syntax.Size(rows[len(rows)-1]) {
			rows = append(rows, node(syntax.XBlock, "", times(min(size-1, 150), node(syntax.XThis, ""))...))
		}
		n := apply(append(rows, behind...)...)
		if syntax.Size(n) != whole {
			t.Fatalf("%d nodes, want %d", syntax.Size(n), whole)
		}
		return n
	}
	// sums makes an expression in the place of which there is a number more
	// nodes.
	sums := func(count int) syntax.Node {
		n := node(syntax.XThis, "")
		for range count {
			n = node(syntax.XInfix, "+", node(syntax.XThis, ""), n)
		}
		return n
	}
	for i, c := range []struct {
		n    syntax.Node
		want api.Fault
	}{
		{bomb(), fault(0, api.ErrLimit)},
		{apply(bomb(), bad), fault(0, api.ErrLimit)},
		{apply(bad, bomb()), fault(7, api.ErrName)},
		{sized(api.MaxNodes, node(syntax.SNone, "")), fault(0, api.OK)},
		{sized(api.MaxNodes, node(syntax.XThis, "")), fault(0, api.OK)},
		{sized(api.MaxNodes-3, sums(3)), fault(0, api.OK)},
		{sized(api.MaxNodes-2, sums(3)), fault(0, api.ErrLimit)},
		{sized(api.MaxNodes, sums(1)), fault(0, api.ErrLimit)},
		// In front of the 2 nodes of bad, just api.MaxNodes ones are replaced,
		// or one more.
		{sized(api.MaxNodes, sums(2), bad), fault(7, api.ErrName)},
		{sized(api.MaxNodes, sums(3), bad), fault(0, api.ErrLimit)},
	} {
		out, f := desugar.Expr(c.n)
		if f != c.want || (f.Code != api.OK) != isZero(out) {
			t.Errorf("%d: %v, want %v", i, f, c.want)
		}
	}
}

// P5.1: nodes inside of literal patterns do not count, as nothing is replaced
// there.
func TestLimitOfPatterns(t *testing.T) {
	negative := node(syntax.PLiteral, "", node(syntax.XPrefix, "-", node(syntax.XInt, "")))
	alternatives := node(syntax.PAlt, "", times(100, negative)...)
	one := node(syntax.SCase, "", alternatives, node(syntax.SNone, ""), node(syntax.XThis, ""))
	match := node(syntax.XMatch, "", append([]syntax.Node{node(syntax.XThis, "")}, times(60, one)...)...)
	this := node(syntax.XThis, "")
	twice := node(syntax.XAssign, "+=", node(syntax.XApply, "", this, match), this)
	bad := node(syntax.XInterp, "f", node(syntax.XString, ""))
	bad.At = 3
	for _, c := range []struct {
		kids []syntax.Node
		want api.Fault
	}{
		{[]syntax.Node{match}, fault(0, api.OK)},
		{[]syntax.Node{match, bad}, fault(3, api.ErrName)},
		// The result has too many nodes, but not too many are replaced.
		{[]syntax.Node{twice}, fault(0, api.ErrLimit)},
		{[]syntax.Node{twice, bad}, fault(3, api.ErrName)},
		{[]syntax.Node{twice, twice, bad}, fault(0, api.ErrLimit)},
	} {
		out, f := desugar.Expr(node(syntax.XApply, "", append([]syntax.Node{this}, c.kids...)...))
		if f != c.want || (f.Code != api.OK) != isZero(out) {
			t.Errorf("%v, want %v, %d", f, c.want, syntax.Size(out))
		}
	}
}
