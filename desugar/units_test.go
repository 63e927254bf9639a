package desugar_test

import (
	"strings"
	"testing"

	"newel/api"
	"newel/desugar"
	"newel/syntax"
)

// P5.1 and 8 of "What is replaced": both sides are texts of units.
func TestUnit(t *testing.T) {
	for _, c := range [][2]string{
		{"", ""},
		{"import a.*; val x = -1; type T = A; given A = a + b", "import a.*; val x = 1.-; type T = A; given A = a.+(b)"},
		{"class A(x: Int = -1) extends B(-x) { -x; def f = !x; class C { enum D { case E } } }", "class A(x: Int = 1.-) extends B(x.-) { x.-; def f = x.!; class C { sealed abstract class D; case object E extends D } }"},
		{"trait A { val x: Int; def f: Int; lazy val y = -x }; object B; case class C(); case object D extends A", "trait A { val x: Int; def f: Int; lazy val y = x.- }; object B; case class C(); case object D extends A"},
		// enums
		{"enum Color { case Red, Green }", "sealed abstract class Color; case object Red extends Color; case object Green extends Color"},
		{"private enum E(val x: Int) extends A(-1) with B { def f = -x; case C(y: Int) extends E(-y); val z = 1; case D extends E(2) }; class F",
			"private sealed abstract class E(val x: Int) extends A(1.-) with B { def f = x.-; val z = 1 }; case class C(y: Int) extends E(y.-); case object D extends E(2); class F"},
		{"abstract sealed enum E { case C }", "sealed abstract class E; case object C extends E"},
		{"enum E { case C() ; case D(x: Int)(using y: Int) }", "sealed abstract class E; case class C() extends E; case class D(x: Int)(using y: Int) extends E"},
		{"enum Opt[+A] { case Some(x: A); case None }", "sealed abstract class Opt[+A]; case class Some[+A](x: A) extends Opt[A]; case object None extends Opt[Nothing]"},
		{"enum P[-A, +B, C] { case Q(x: B); case R extends P[Any, Int, C]; case S[T](x: T); case U(x: Int) extends P[Any, Int, Int]; case V[X](x: X) extends W }",
			"sealed abstract class P[-A, +B, C]; case class Q[-A, +B, C](x: B) extends P[A, B, C]; case object R extends P[Any, Int, C]; case class S[T](x: T) extends P[A, B, C]; case class U(x: Int) extends P[Any, Int, Int]; case class V[X](x: X) extends W"},
		{"enum F[-A, +B <: A] { case G }", "sealed abstract class F[-A, +B <: A]; case object G extends F[Any, Nothing]"},
		{"enum F[+A[_], -B >: X] { case G(x: A[Int]) }", "sealed abstract class F[+A[_], -B >: X]; case class G[+A[_], -B >: X](x: A[Int]) extends F[A, B]"},
		{"enum E { case A; enum F { case B; def f = 1 } }", "sealed abstract class E { sealed abstract class F { def f = 1 }; case object B extends F }; case object A extends E"},
		{"def f = new A { enum E { case B(x: Int = -1) } }", "def f = new A { sealed abstract class E; case class B(x: Int = 1.-) extends E }"},
	} {
		out, f := desugar.Unit(parsed(t, "unit", c[0]))
		if want := parsed(t, "unit", c[1]); f.Code != api.OK || !syntax.Equal(out, want) {
			t.Errorf("%s: %v\n%s\n%s", c[0], f, form(out), form(want))
		}
	}
}

// P5.1 and 7: in the texts of the right side, methods whose names begin with
// EXT are extension methods.
func TestExtension(t *testing.T) {
	for _, c := range [][2]string{
		{"extension (x: Int) def f = -x", "def EXTf(x: Int) = x.-"},
		{"extension (x: Int) def +(y: Int): Int = x", "def EXTplus(x: Int)(y: Int): Int = x"},
		{"extension [A, B](x: A) { private def f[C](y: C)(using z: B): A; def g: B = x }; def h = 1", "private def EXTf[A, B, C](x: A)(y: C)(using z: B): A; def EXTg[A, B](x: A): B = x; def h = 1"},
		{"class A { 1; extension (x: => Int = -1) { def f() = 2; def g = 3 }; 4 }", "class A { 1; def EXTf(x: => Int = 1.-)() = 2; def EXTg(x: => Int = 1.-) = 3; 4 }"},
		{"enum E { extension (x: Int) { def f = x }; case A }", "sealed abstract class E { def EXTf(x: Int) = x }; case object A extends E"},
		{"extension (x: Int = _ => 1) { def f = _ => 2; def g = 3 }", "def EXTf(x: Int = _1 => 1) = _2 => 2; def EXTg(x: Int = _3 => 1) = 3"},
	} {
		want := parsed(t, "unit", c[1])
		each(&want, func(n *syntax.Node) {
			if name, ok := strings.CutPrefix(n.Text, "EXT"); ok {
				n.Text, n.Num = strings.Replace(name, "plus", "+", 1), 1
			}
		})
		out, f := desugar.Unit(parsed(t, "unit", c[0]))
		if f.Code != api.OK || !syntax.Equal(out, want) {
			t.Errorf("%s: %v\n%s\n%s", c[0], f, form(out), form(want))
		}
	}
}

// P5.1 and P5.2: trees that no text has.
func TestForms(t *testing.T) {
	for _, c := range [][2]string{
		{`(XInfix "max" (XName "a") (XName "b"))`, `(XApply (XSelect "max" (XName "a")) (XName "b"))`},
		{`(XInfix ":" (XName "a") (XName "b"))`, `(XBlock (SVal "_1" (SMods) (SNone) (XName "a")) (XApply (XSelect ":" (XName "b")) (XName "_1")))`},
		{`(XAssign "!==" (XName "a") (XName "b"))`, `(XAssign "=" (XName "a") (XSelect "!" (XApply (XSelect "==" (XName "a")) (XName "b"))))`},
		{`(XAssign ":=" (XName "a") (XName "b"))`, `(XAssign "=" (XName "a") (XBlock (SVal "_1" (SMods) (SNone) (XName "a")) (XApply (XSelect ":" (XName "b")) (XName "_1"))))`},
		{`(XAssign "||=" (XApply (XName "f")) (XName "b"))`, `(XApply (XSelect "update" (XName "f")) (XIf (XApply (XName "f")) (XTrue) (XName "b")))`},
		{`(XAssign "=" (XApply 1 (XName "f") (XThis)) (XNull))`, `(XApply (XSelect "update" (XName "f")) (XThis) (XNull))`},
		{`(XPrefix "-" (XPrefix "-" (XInt 1)))`, `(XSelect "-" (XSelect "-" (XInt 1)))`},
		{`(XLambda (SLambdaParam "_" (TName "A")) (XPrefix "!" (XName "x")))`, `(XLambda (SLambdaParam "_1" (TName "A")) (XSelect "!" (XName "x")))`},
		{`(XQuote (XPrefix "-" (XSplice (XPrefix "~" (XThis)))))`, `(XQuote (XSelect "-" (XSplice (XSelect "~" (XThis)))))`},
		{`(XSuper "A")`, `(XSuper "A")`},
		{`(XFor 1 (SGenerator (PTyped "x" (TWild (SNone) (SNone))) (XName "a")) (XName "b"))`, `(XApply (XSelect "map" (XName "a")) (XLambda (SLambdaParam "x" (TWild (SNone) (SNone))) (XName "b")))`},
		// a case object has no type parameters
		{`(SUnit (SClass "E" 5 (SMods) (SNames) (SLists) (SParents) (SBody (SEnumCase "A" (SNames (STParam "T" (SNone) (SNone))) (SLists) (SParents)))))`,
			`(SUnit (SClass "E" (SMods 5) (SNames) (SLists) (SParents) (SNone)) (SClass "A" 4 (SMods) (SNames) (SLists) (SParents (SParent (TName "E"))) (SNone)))`},
	} {
		out, f := core(tree(t, c[0]))
		if f.Code != api.OK || form(out) != c[1] {
			t.Errorf("%s: %v\n%s\n%s", c[0], f, form(out), c[1])
		}
	}
}

// P5.1: nodes that are made have the offset of the node that is replaced (a
// case of an enum is one), all others keep their own.
func TestPlaces(t *testing.T) {
	for _, c := range [][3]string{
		{"expr", "a && b", "XIf@0(XName@0 XName@5 XFalse@0)"},
		{"expr", "(a || b)", "XIf@0(XName@1 XTrue@0 XName@6)"},
		{"expr", "f(a != b)", "XApply@0(XName@0 XSelect@2(XApply@2(XSelect@2(XName@2) XName@7)))"},
		{"expr", "f(a :: b)", "XApply@0(XName@0 XBlock@2(SVal@2(SMods@2 SNone@2 XName@2) XApply@2(XSelect@2(XName@7) XName@2)))"},
		{"expr", "f(-a)", "XApply@0(XName@0 XSelect@2(XName@3))"},
		{"expr", "f(a += b)", "XApply@0(XName@0 XAssign@2(XName@2 XApply@2(XSelect@2(XName@2) XName@7)))"},
		{"expr", "{ a(b) = c }", "XBlock@0(XApply@2(XSelect@2(XName@2) XName@4 XName@9))"},
		{"expr", `f(s"a$b-")`, "XApply@0(XName@0 XApply@2(XSelect@2(XApply@2(XSelect@2(XString@4) XName@6)) XString@7))"},
		{"expr", `f(s"a")`, "XApply@0(XName@0 XString@4)"},
		{"expr", "{ if (a) b }", "XBlock@0(XIf@2(XName@6 XName@9 XUnit@2))"},
		{"expr", "{ return }", "XBlock@0(XReturn@2(XUnit@2))"},
		{"expr", "f({ })", "XApply@0(XName@0 XBlock@2(XUnit@2))"},
		{"expr", "f(_ => a)", "XApply@0(XName@0 XLambda@2(SLambdaParam@2(SNone@4) XName@7))"},
		{"expr", "f(for (x: A <- xs) x)", "XApply@0(XName@0 XApply@2(XSelect@2(XName@15) XLambda@2(SLambdaParam@2(TName@10) XName@19)))"},
		{"expr", "{ for { _ <- a; b = c; if d } e }", "XBlock@0(XApply@2(XSelect@2(XApply@2(XSelect@2(XName@13) XLambda@2(SLambdaParam@2(SNone@2) XMatch@2(XName@2 SCase@2(PWild@8 SNone@2 XMatch@2(XName@20 SCase@2(PBind@16(PWild@18) SNone@2 XName@26)))))))" +
			" XLambda@2(SLambdaParam@2(SNone@2) XMatch@2(XName@2 SCase@2(PWild@8 SNone@2 XMatch@2(XName@20 SCase@2(PBind@16(PWild@18) SNone@2 XName@30)))))))"},
		{"unit", "; extension (x: A) def f = x", "SUnit@0(SDef@19(SMods@19 SNames@25 SLists@25(SParams@2(SParam@13(SMods@13 TName@16 SNone@17))) SNone@25 XName@27))"},
		{"unit", "; enum E[+T] { case A, B; case C(x: T) }",
			"SUnit@0(SClass@2(SMods@2 SNames@8(STParam@9(SNone@11 SNone@11)) SLists@13 SParents@13 SNone@2)" +
				" SClass@20(SMods@20 SNames@21 SLists@21 SParents@21(SParent@20(TApply@20(TName@20 TName@20))) SNone@20)" +
				" SClass@23(SMods@23 SNames@24 SLists@24 SParents@24(SParent@23(TApply@23(TName@23 TName@23))) SNone@23)" +
				" SClass@26(SMods@26 SNames@32(STParam@9(SNone@11 SNone@11)) SLists@32(SParams@32(SParam@33(SMods@33 TName@36 SNone@37))) SParents@39(SParent@26(TApply@26(TName@26 TName@26))) SNone@26))"},
	} {
		out, f := core(parsed(t, c[0], c[1]))
		if f.Code != api.OK || places(out) != c[2] {
			t.Errorf("%s: %v\n%s\n%s", c[1], f, places(out), c[2])
		}
	}
}
