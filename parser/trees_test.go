package parser_test

import (
	"strings"
	"testing"

	"newel/api"
	"newel/parser"
	"newel/syntax"
)

// The tables have a rule and a text in one line, and the tree in the next one;
// a line feed of a text is written as ¶.

// P3.1: the definitions of a unit.
const definitionTrees = `
unit 
	(SUnit)
unit ;;¶¶;
	(SUnit)
unit ;val x;;val y;
	(SUnit (SVal "x" (SMods) (SNone) (SNone)) (SVal "y" (SMods) (SNone) (SNone)))
unit // c¶val x¶¶val y
	(SUnit (SVal "x" (SMods) (SNone) (SNone)) (SVal "y" (SMods) (SNone) (SNone)))
unit import a
	(SUnit (SImport "a"))
unit import a.b.C
	(SUnit (SImport "a.b.C"))
unit import a.b.*
	(SUnit (SImport "a.b.*"))
unit import a.*; import b
	(SUnit (SImport "a.*") (SImport "b"))
unit abstract final sealed private override volatile inline class A
	(SUnit (SClass "A" (SMods 4639) (SNames) (SLists) (SParents) (SNone)))
unit class A
	(SUnit (SClass "A" (SMods) (SNames) (SLists) (SParents) (SNone)))
unit case class A
	(SUnit (SClass "A" 3 (SMods) (SNames) (SLists) (SParents) (SNone)))
unit trait A
	(SUnit (SClass "A" 1 (SMods) (SNames) (SLists) (SParents) (SNone)))
unit object A
	(SUnit (SClass "A" 2 (SMods) (SNames) (SLists) (SParents) (SNone)))
unit case object A extends B
	(SUnit (SClass "A" 4 (SMods) (SNames) (SLists) (SParents (SParent (TName "B"))) (SNone)))
unit enum A { }
	(SUnit (SClass "A" 5 (SMods) (SNames) (SLists) (SParents) (SBody)))
unit class A[B, +C, -D[_, _] >: E <: F](x: G, val y: => H = 1)(using private var z: I*) extends J(1, x) with K, L() { val m; n }
	(SUnit (SClass "A" (SMods) (SNames (STParam "B" (SNone) (SNone)) (STParam "C" 1 (SNone) (SNone)) (STParam "D" -1 (TName "E") (TName "F") (SNone) (SNone))) (SLists (SParams (SParam "x" (SMods) (TName "G") (SNone)) (SParam "y" 5 (SMods) (TName "H") (XInt 1))) (SParams 1 (SParam "z" 10 (SMods 8) (TName "I") (SNone)))) (SParents (SParent 1 (TName "J") (XInt 1) (XName "x")) (SParent (TName "K")) (SParent 1 (TName "L"))) (SBody (SVal "m" (SMods) (SNone) (SNone)) (XName "n"))))
unit object A { ; }
	(SUnit (SClass "A" 2 (SMods) (SNames) (SLists) (SParents) (SBody)))
unit class A:¶  val x¶  y¶¶val z
	(SUnit (SClass "A" (SMods) (SNames) (SLists) (SParents) (SBody (SVal "x" (SMods) (SNone) (SNone)) (XName "y"))) (SVal "z" (SMods) (SNone) (SNone)))
unit enum A[B](x: Int) extends C:¶  case D, E¶  case F¶  case G[H](y: B) extends A(1) with I¶  case class J(x: K)¶  def f = 1
	(SUnit (SClass "A" 5 (SMods) (SNames (STParam "B" (SNone) (SNone))) (SLists (SParams (SParam "x" (SMods) (TName "Int") (SNone)))) (SParents (SParent (TName "C"))) (SBody (SEnumCase "D" (SNames) (SLists) (SParents)) (SEnumCase "E" (SNames) (SLists) (SParents)) (SEnumCase "F" (SNames) (SLists) (SParents)) (SEnumCase "G" (SNames (STParam "H" (SNone) (SNone))) (SLists (SParams (SParam "y" (SMods) (TName "B") (SNone)))) (SParents (SParent 1 (TName "A") (XInt 1)) (SParent (TName "I")))) (SClass "J" 3 (SMods) (SNames) (SLists (SParams (SParam "x" (SMods) (TName "K") (SNone)))) (SParents) (SNone)) (SDef "f" (SMods) (SNames) (SLists) (SNone) (XInt 1)))))
unit class A()(using)()
	(SUnit (SClass "A" (SMods) (SNames) (SLists (SParams) (SParams 1) (SParams)) (SParents) (SNone)))
unit def f
	(SUnit (SDef "f" (SMods) (SNames) (SLists) (SNone) (SNone)))
unit def + : Int
	(SUnit (SDef "+" (SMods) (SNames) (SLists) (TName "Int") (SNone)))
unit private def f[A](x: A, y: B = 2)(z: => C): D = x
	(SUnit (SDef "f" (SMods 8) (SNames (STParam "A" (SNone) (SNone))) (SLists (SParams (SParam "x" (SMods) (TName "A") (SNone)) (SParam "y" (SMods) (TName "B") (XInt 2))) (SParams (SParam "z" 1 (SMods) (TName "C") (SNone)))) (TName "D") (XName "x")))
unit def f(xs: A*, final inline var b: C)
	(SUnit (SDef "f" (SMods) (SNames) (SLists (SParams (SParam "xs" 2 (SMods) (TName "A") (SNone)) (SParam "b" 8 (SMods 4098) (TName "C") (SNone)))) (SNone) (SNone)))
unit def f: A => B = g
	(SUnit (SDef "f" (SMods) (SNames) (SLists) (TFunction (TName "A") (TName "B")) (XName "g")))
unit def f = a = b
	(SUnit (SDef "f" (SMods) (SNames) (SLists) (SNone) (XAssign "=" (XName "a") (XName "b"))))
unit val x
	(SUnit (SVal "x" (SMods) (SNone) (SNone)))
unit val x: A
	(SUnit (SVal "x" (SMods) (TName "A") (SNone)))
unit val x = 1
	(SUnit (SVal "x" (SMods) (SNone) (XInt 1)))
unit var x: A = 1
	(SUnit (SVal "x" 1 (SMods) (TName "A") (XInt 1)))
unit private lazy val x: A = 1
	(SUnit (SVal "x" 2 (SMods 8) (TName "A") (XInt 1)))
unit type A
	(SUnit (SType "A" (SMods) (SNames) (SNone) (SNone) (SNone)))
unit type A[B] >: C <: D
	(SUnit (SType "A" (SMods) (SNames (STParam "B" (SNone) (SNone))) (TName "C") (TName "D") (SNone)))
unit type A <: D
	(SUnit (SType "A" (SMods) (SNames) (SNone) (TName "D") (SNone)))
unit type A >: C
	(SUnit (SType "A" (SMods) (SNames) (TName "C") (SNone) (SNone)))
unit type A[B[_]] = C
	(SUnit (SType "A" (SMods) (SNames (STParam "B" (SNone) (SNone) (SNone))) (SNone) (SNone) (TName "C")))
unit given A = b
	(SUnit (SGiven (SMods) (SNames) (SLists) (TName "A") (XName "b")))
unit given A[B] = c
	(SUnit (SGiven (SMods) (SNames) (SLists) (TApply (TName "A") (TName "B")) (XName "c")))
unit given a: A = b
	(SUnit (SGiven "a" (SMods) (SNames) (SLists) (TName "A") (XName "b")))
unit given a(using x: A): B = c
	(SUnit (SGiven "a" (SMods) (SNames) (SLists (SParams 1 (SParam "x" (SMods) (TName "A") (SNone)))) (TName "B") (XName "c")))
unit given a[B](x: B)(using y: C): D = e
	(SUnit (SGiven "a" (SMods) (SNames (STParam "B" (SNone) (SNone))) (SLists (SParams (SParam "x" (SMods) (TName "B") (SNone))) (SParams 1 (SParam "y" (SMods) (TName "C") (SNone)))) (TName "D") (XName "e")))
unit given a[B]: D = e
	(SUnit (SGiven "a" (SMods) (SNames (STParam "B" (SNone) (SNone))) (SLists) (TName "D") (XName "e")))
unit given (A) => B = c
	(SUnit (SGiven (SMods) (SNames) (SLists) (TFunction (TName "A") (TName "B")) (XName "c")))
unit final given a.B = c
	(SUnit (SGiven (SMods 2) (SNames) (SLists) (TSelect "B" (XName "a")) (XName "c")))
unit extension (x: A) def f = 1
	(SUnit (SExtension (SNames) (SParam "x" (SMods) (TName "A") (SNone)) (SDef "f" (SMods) (SNames) (SLists) (SNone) (XInt 1))))
unit extension [A](x: A) { private def f = 1; def g }
	(SUnit (SExtension (SNames (STParam "A" (SNone) (SNone))) (SParam "x" (SMods) (TName "A") (SNone)) (SDef "f" (SMods 8) (SNames) (SLists) (SNone) (XInt 1)) (SDef "g" (SMods) (SNames) (SLists) (SNone) (SNone))))
unit extension (x: => A):¶  def f = 1¶  def g = 2
	(SUnit (SExtension (SNames) (SParam "x" 1 (SMods) (TName "A") (SNone)) (SDef "f" (SMods) (SNames) (SLists) (SNone) (XInt 1)) (SDef "g" (SMods) (SNames) (SLists) (SNone) (XInt 2))))
unit def f =¶  g
	(SUnit (SDef "f" (SMods) (SNames) (SLists) (SNone) (XBlock (XName "g"))))
unit def f =¶  g¶  h¶def i
	(SUnit (SDef "f" (SMods) (SNames) (SLists) (SNone) (XBlock (XName "g") (XName "h"))) (SDef "i" (SMods) (SNames) (SLists) (SNone) (SNone)))
`

// P3.2: types.
const typeTrees = `
type A
	(TName "A")
type a.B
	(TSelect "B" (XName "a"))
type a.b.C
	(TSelect "C" (XSelect "b" (XName "a")))
type this.A
	(TSelect "A" (XThis))
type this.a.B
	(TSelect "B" (XSelect "a" (XThis)))
type this.type
	(TSingle (XThis))
type a.type
	(TSingle (XName "a"))
type this.a.b.type
	(TSingle (XSelect "b" (XSelect "a" (XThis))))
type (A)
	(TName "A")
type ((A))
	(TName "A")
type A[B]
	(TApply (TName "A") (TName "B"))
type A[B, C][D]
	(TApply (TApply (TName "A") (TName "B") (TName "C")) (TName "D"))
type A[_]
	(TApply (TName "A") (TWild (SNone) (SNone)))
type A[_ >: B <: C, _ <: D, _ >: E]
	(TApply (TName "A") (TWild (TName "B") (TName "C")) (TWild (SNone) (TName "D")) (TWild (TName "E") (SNone)))
type (A)[B]
	(TApply (TName "A") (TName "B"))
type a.type[B]
	(TApply (TSingle (XName "a")) (TName "B"))
type A & B & C
	(TAnd (TAnd (TName "A") (TName "B")) (TName "C"))
type A | B | C
	(TOr (TOr (TName "A") (TName "B")) (TName "C"))
type A | B & C | D
	(TOr (TOr (TName "A") (TAnd (TName "B") (TName "C"))) (TName "D"))
type A & (B | C)
	(TAnd (TName "A") (TOr (TName "B") (TName "C")))
type A => B
	(TFunction (TName "A") (TName "B"))
type A => B => C
	(TFunction (TName "A") (TFunction (TName "B") (TName "C")))
type (A => B) => C
	(TFunction (TFunction (TName "A") (TName "B")) (TName "C"))
type () => A
	(TFunction (TName "A"))
type (A) => B
	(TFunction (TName "A") (TName "B"))
type (A, B => C) => D
	(TFunction (TName "A") (TFunction (TName "B") (TName "C")) (TName "D"))
type A | B => C
	(TFunction (TOr (TName "A") (TName "B")) (TName "C"))
type (A)[B] => C
	(TFunction (TApply (TName "A") (TName "B")) (TName "C"))
type [A] =>> B
	(TLambda (SNames (STParam "A" (SNone) (SNone))) (TName "B"))
type [+A, B[_] <: C] =>> A => B
	(TLambda (SNames (STParam "A" 1 (SNone) (SNone)) (STParam "B" (SNone) (TName "C") (SNone))) (TFunction (TName "A") (TName "B")))
type A match { case B => C }
	(TMatch (TName "A") (TCase (TName "B") (TName "C")))
type A match { ; case B => C ;; }
	(TMatch (TName "A") (TCase (TName "B") (TName "C")))
type A | B match { case (C) => D => E; case F[_] => G ; }
	(TMatch (TOr (TName "A") (TName "B")) (TCase (TName "C") (TFunction (TName "D") (TName "E"))) (TCase (TApply (TName "F") (TWild (SNone) (SNone))) (TName "G")))
type A match¶  case B => C¶  case D => E
	(TMatch (TName "A") (TCase (TName "B") (TName "C")) (TCase (TName "D") (TName "E")))
`

// P3.2: expressions.
const exprTrees = `
expr a
	(XName "a")
expr this
	(XThis)
expr super.a
	(XSelect "a" (XSuper))
expr super[A].+
	(XSelect "+" (XSuper "A"))
expr 0
	(XInt)
expr 2147483647
	(XInt 2147483647)
expr 9223372036854775807L
	(XLong 9223372036854775807)
expr 'a'
	(XChar 97)
expr '\n'
	(XChar 10)
expr '\xff'
	(XChar 255)
expr "a\n\"b"
	(XString "a\n\"b")
expr true
	(XTrue)
expr false
	(XFalse)
expr null
	(XNull)
expr ()
	(XUnit)
expr (a)
	(XName "a")
expr ((a))
	(XName "a")
expr (a: A => B)
	(XTyped (XName "a") (TFunction (TName "A") (TName "B")))
expr (a = b: A)
	(XTyped (XAssign "=" (XName "a") (XName "b")) (TName "A"))
expr a.b.c
	(XSelect "c" (XSelect "b" (XName "a")))
expr a.+
	(XSelect "+" (XName "a"))
expr a.+=(b)
	(XApply (XSelect "+=" (XName "a")) (XName "b"))
expr a[B, C => D]
	(XTypes (XName "a") (TName "B") (TFunction (TName "C") (TName "D")))
expr f()
	(XApply (XName "f"))
expr f(a, b)(c)
	(XApply (XApply (XName "f") (XName "a") (XName "b")) (XName "c"))
expr f(using a, b)
	(XApply 1 (XName "f") (XName "a") (XName "b"))
expr f(using)
	(XApply 1 (XName "f"))
expr f(a, x = b, y = c => d)
	(XApply (XName "f") (XName "a") (XNamed "x" (XName "b")) (XNamed "y" (XLambda (SLambdaParam "c" (SNone)) (XName "d"))))
expr f(x == b)
	(XApply (XName "f") (XInfix "==" (XName "x") (XName "b")))
expr f { a; b }
	(XApply (XName "f") (XBlock (XName "a") (XName "b")))
expr f(a) { b } .c
	(XSelect "c" (XApply (XApply (XName "f") (XName "a")) (XBlock (XName "b"))))
expr f { x => y }
	(XApply (XName "f") (XBlock (XLambda (SLambdaParam "x" (SNone)) (XName "y"))))
expr f[A](a).b { c }[D]
	(XTypes (XApply (XSelect "b" (XApply (XTypes (XName "f") (TName "A")) (XName "a"))) (XBlock (XName "c"))) (TName "D"))
expr new A
	(XNew (SParents (SParent (TName "A"))) (SNone))
expr new A(a, b)
	(XNew (SParents (SParent 1 (TName "A") (XName "a") (XName "b"))) (SNone))
expr new A()(b)
	(XApply (XNew (SParents (SParent 1 (TName "A"))) (SNone)) (XName "b"))
expr new A with B(c) { def d = 1 }
	(XNew (SParents (SParent (TName "A")) (SParent 1 (TName "B") (XName "c"))) (SBody (SDef "d" (SMods) (SNames) (SLists) (SNone) (XInt 1))))
expr new A[B] { }
	(XNew (SParents (SParent (TApply (TName "A") (TName "B")))) (SBody))
expr new A:¶  val x = 1¶  y
	(XNew (SParents (SParent (TName "A"))) (SBody (SVal "x" (SMods) (SNone) (XInt 1)) (XName "y")))
expr (new A: B)
	(XTyped (XNew (SParents (SParent (TName "A"))) (SNone)) (TName "B"))
expr new a.B.+(c)
	(XApply (XSelect "+" (XNew (SParents (SParent (TSelect "B" (XName "a")))) (SNone))) (XName "c"))
expr new A.+
	(XSelect "+" (XNew (SParents (SParent (TName "A"))) (SNone)))
expr new A(using b)
	(XApply 1 (XNew (SParents (SParent (TName "A"))) (SNone)) (XName "b"))
expr new this.type
	(XNew (SParents (SParent (TSingle (XThis)))) (SNone))
expr new A.type { }
	(XNew (SParents (SParent (TSingle (XName "A")))) (SBody))
expr -a
	(XPrefix "-" (XName "a"))
expr - 1
	(XPrefix "-" (XInt 1))
expr !a.b
	(XPrefix "!" (XSelect "b" (XName "a")))
expr -a + -b
	(XInfix "+" (XPrefix "-" (XName "a")) (XPrefix "-" (XName "b")))
expr ~ + a
	(XPrefix "~" (XPrefix "+" (XName "a")))
expr a + b
	(XInfix "+" (XName "a") (XName "b"))
expr a + b * c
	(XInfix "+" (XName "a") (XInfix "*" (XName "b") (XName "c")))
expr a * b + c
	(XInfix "+" (XInfix "*" (XName "a") (XName "b")) (XName "c"))
expr a - b - c
	(XInfix "-" (XInfix "-" (XName "a") (XName "b")) (XName "c"))
expr a :: b :: c
	(XInfix "::" (XName "a") (XInfix "::" (XName "b") (XName "c")))
expr a + b :: c * d :: e
	(XInfix "::" (XInfix "+" (XName "a") (XName "b")) (XInfix "::" (XInfix "*" (XName "c") (XName "d")) (XName "e")))
expr a || b && c == d < e :: f + g * h ~~ i
	(XInfix "||" (XName "a") (XInfix "&&" (XName "b") (XInfix "==" (XName "c") (XInfix "<" (XName "d") (XInfix "::" (XName "e") (XInfix "+" (XName "f") (XInfix "*" (XName "g") (XInfix "~~" (XName "h") (XName "i")))))))))
expr a == b != c
	(XInfix "!=" (XInfix "==" (XName "a") (XName "b")) (XName "c"))
expr a = b
	(XAssign "=" (XName "a") (XName "b"))
expr a += b
	(XAssign "+=" (XName "a") (XName "b"))
expr a.b = c = d
	(XAssign "=" (XSelect "b" (XName "a")) (XAssign "=" (XName "c") (XName "d")))
expr a + b *= c => d
	(XAssign "*=" (XInfix "+" (XName "a") (XName "b")) (XLambda (SLambdaParam "c" (SNone)) (XName "d")))
expr f(a) = b
	(XAssign "=" (XApply (XName "f") (XName "a")) (XName "b"))
expr a match { case b => c }
	(XMatch (XName "a") (SCase (PBind "b" (PWild)) (SNone) (XName "c")))
expr a + b match { case 1 => c case _ => d } match { ; case x => y ; }
	(XMatch (XMatch (XInfix "+" (XName "a") (XName "b")) (SCase (PLiteral (XInt 1)) (SNone) (XName "c")) (SCase (PWild) (SNone) (XName "d"))) (SCase (PBind "x" (PWild)) (SNone) (XName "y")))
expr x => y
	(XLambda (SLambdaParam "x" (SNone)) (XName "y"))
expr _ => y
	(XLambda (SLambdaParam "_" (SNone)) (XName "y"))
expr () => a
	(XLambda (XName "a"))
expr (x) => a
	(XLambda (SLambdaParam "x" (SNone)) (XName "a"))
expr (x, _, y: A | B) => a
	(XLambda (SLambdaParam "x" (SNone)) (SLambdaParam "_" (SNone)) (SLambdaParam "y" (TOr (TName "A") (TName "B"))) (XName "a"))
expr (x: (A => B)) => y => z
	(XLambda (SLambdaParam "x" (TFunction (TName "A") (TName "B"))) (XLambda (SLambdaParam "y" (SNone)) (XName "z")))
expr if (a) b
	(XIf (XName "a") (XName "b") (SNone))
expr if (a) b else c
	(XIf (XName "a") (XName "b") (XName "c"))
expr if (a) then b else c
	(XIf (XName "a") (XName "b") (XName "c"))
expr if a then b
	(XIf (XName "a") (XName "b") (SNone))
expr if a then b else c
	(XIf (XName "a") (XName "b") (XName "c"))
expr if (a) if (b) c else d
	(XIf (XName "a") (XIf (XName "b") (XName "c") (XName "d")) (SNone))
expr if (a) b; else c
	(XIf (XName "a") (XName "b") (XName "c"))
expr if a then¶  b¶else¶  c
	(XIf (XName "a") (XBlock (XName "b")) (XBlock (XName "c")))
expr if (a) -b
	(XIf (XName "a") (XPrefix "-" (XName "b")) (SNone))
expr if (a) then (b) else { c }
	(XIf (XName "a") (XName "b") (XBlock (XName "c")))
expr if (a) b ¶else c
	(XIf (XName "a") (XName "b") (XName "c"))
expr if a + b then c = d else e
	(XIf (XInfix "+" (XName "a") (XName "b")) (XAssign "=" (XName "c") (XName "d")) (XName "e"))
expr while (a) b
	(XWhile (XName "a") (XName "b"))
expr while (a) do b
	(XWhile (XName "a") (XName "b"))
expr while a do b
	(XWhile (XName "a") (XName "b"))
expr for (x <- a) b
	(XFor (SGenerator (PBind "x" (PWild)) (XName "a")) (XName "b"))
expr for (x <- a) do b
	(XFor (SGenerator (PBind "x" (PWild)) (XName "a")) (XName "b"))
expr for (x <- a) yield b
	(XFor 1 (SGenerator (PBind "x" (PWild)) (XName "a")) (XName "b"))
expr for { x <- a } { b }
	(XFor (SGenerator (PBind "x" (PWild)) (XName "a")) (XBlock (XName "b")))
expr for x <- a do b
	(XFor (SGenerator (PBind "x" (PWild)) (XName "a")) (XName "b"))
expr for x <- a yield b
	(XFor 1 (SGenerator (PBind "x" (PWild)) (XName "a")) (XName "b"))
expr for { ; x <- a; y = b if c if d; if e; Z(z, 1) <- f; } yield g
	(XFor 1 (SGenerator (PBind "x" (PWild)) (XName "a")) (SBinding (PBind "y" (PWild)) (XName "b")) (SGuard (XName "c")) (SGuard (XName "d")) (SGuard (XName "e")) (SGenerator (PApply "Z" (PBind "z" (PWild)) (PLiteral (XInt 1))) (XName "f")) (XName "g"))
expr for (A(x) <- a; y: B <- b if c) yield x
	(XFor 1 (SGenerator (PApply "A" (PBind "x" (PWild))) (XName "a")) (SGenerator (PTyped "y" (TName "B")) (XName "b")) (SGuard (XName "c")) (XName "x"))
expr for x <- a; y <- b; yield c
	(XFor 1 (SGenerator (PBind "x" (PWild)) (XName "a")) (SGenerator (PBind "y" (PWild)) (XName "b")) (XName "c"))
expr for (x) <- a yield b
	(XFor 1 (SGenerator (PBind "x" (PWild)) (XName "a")) (XName "b"))
expr for () <- a do b
	(XFor (SGenerator (PLiteral (XUnit)) (XName "a")) (XName "b"))
expr for¶  x <- a¶  y <- b¶yield c
	(XFor 1 (SGenerator (PBind "x" (PWild)) (XName "a")) (SGenerator (PBind "y" (PWild)) (XName "b")) (XName "c"))
expr try a
	(XTry (XName "a") (SCases) (SNone))
expr try a catch { case b => c }
	(XTry (XName "a") (SCases (SCase (PBind "b" (PWild)) (SNone) (XName "c"))) (SNone))
expr try a catch case b => c
	(XTry (XName "a") (SCases (SCase (PBind "b" (PWild)) (SNone) (XName "c"))) (SNone))
expr try a finally b
	(XTry (XName "a") (SCases) (XName "b"))
expr try a; catch { case b => c; case d => e }; finally f
	(XTry (XName "a") (SCases (SCase (PBind "b" (PWild)) (SNone) (XName "c")) (SCase (PBind "d" (PWild)) (SNone) (XName "e"))) (XName "f"))
expr try a catch case b => c finally d
	(XTry (XName "a") (SCases (SCase (PBind "b" (PWild)) (SNone) (XName "c"))) (XName "d"))
expr try¶  a¶catch¶  case b => c¶finally¶  d
	(XTry (XBlock (XName "a")) (SCases (SCase (PBind "b" (PWild)) (SNone) (XName "c"))) (XBlock (XName "d")))
expr try try a catch case b => c catch case d => e
	(XTry (XTry (XName "a") (SCases (SCase (PBind "b" (PWild)) (SNone) (XName "c"))) (SNone)) (SCases (SCase (PBind "d" (PWild)) (SNone) (XName "e"))) (SNone))
expr try { a } catch { case 1 | 2 => b case _: A => c } finally { d }
	(XTry (XBlock (XName "a")) (SCases (SCase (PAlt (PLiteral (XInt 1)) (PLiteral (XInt 2))) (SNone) (XName "b")) (SCase (PTyped "_" (TName "A")) (SNone) (XName "c"))) (XBlock (XName "d")))
expr throw a
	(XThrow (XName "a"))
expr return
	(XReturn (SNone))
expr return a
	(XReturn (XName "a"))
expr return -a
	(XReturn (XPrefix "-" (XName "a")))
expr return { }
	(XReturn (XBlock))
expr { return; a }
	(XBlock (XReturn (SNone)) (XName "a"))
expr f(return, 1)
	(XApply (XName "f") (XReturn (SNone)) (XInt 1))
expr { }
	(XBlock)
expr { a; val b = c; d }
	(XBlock (XName "a") (SVal "b" (SMods) (SNone) (XName "c")) (XName "d"))
expr { ; a ;; b ; }
	(XBlock (XName "a") (XName "b"))
expr { import a.b; private def f = 1; lazy val c = 2; abstract class D; type E; given F = g; extension (x: A) def h; case object I }
	(XBlock (SImport "a.b") (SDef "f" (SMods 8) (SNames) (SLists) (SNone) (XInt 1)) (SVal "c" 2 (SMods) (SNone) (XInt 2)) (SClass "D" (SMods 1) (SNames) (SLists) (SParents) (SNone)) (SType "E" (SMods) (SNames) (SNone) (SNone) (SNone)) (SGiven (SMods) (SNames) (SLists) (TName "F") (XName "g")) (SExtension (SNames) (SParam "x" (SMods) (TName "A") (SNone)) (SDef "h" (SMods) (SNames) (SLists) (SNone) (SNone))) (SClass "I" 4 (SMods) (SNames) (SLists) (SParents) (SNone)))
expr { trait A; object B; enum C { }; inline class D }
	(XBlock (SClass "A" 1 (SMods) (SNames) (SLists) (SParents) (SNone)) (SClass "B" 2 (SMods) (SNames) (SLists) (SParents) (SNone)) (SClass "C" 5 (SMods) (SNames) (SLists) (SParents) (SBody)) (SClass "D" (SMods 4096) (SNames) (SLists) (SParents) (SNone)))
expr { class A { case class B }; a }
	(XBlock (SClass "A" (SMods) (SNames) (SLists) (SParents) (SBody (SClass "B" 3 (SMods) (SNames) (SLists) (SParents) (SNone)))) (XName "a"))
expr '{ a; b }
	(XQuote (XBlock (XName "a") (XName "b")))
expr '{ }
	(XQuote (XBlock))
expr ${ a }
	(XSplice (XBlock (XName "a")))
expr s"a"
	(XInterp "s" (XString "a"))
expr s""
	(XInterp "s" (XString))
expr s"a$b c${d + e}$this"
	(XInterp "s" (XString "a") (XName "b") (XString " c") (XInfix "+" (XName "d") (XName "e")) (XString) (XThis) (XString))
expr s"${s"${a}"}"
	(XInterp "s" (XString) (XInterp "s" (XString) (XName "a") (XString)) (XString))
`

// P3.2: the bodies and guards of cases.
const caseTrees = `
expr a match { case b => c; d }
	(XMatch (XName "a") (SCase (PBind "b" (PWild)) (SNone) (XBlock (XName "c") (XName "d"))))
expr a match { case b => }
	(XMatch (XName "a") (SCase (PBind "b" (PWild)) (SNone) (XBlock)))
expr a match { case b => case c => }
	(XMatch (XName "a") (SCase (PBind "b" (PWild)) (SNone) (XBlock)) (SCase (PBind "c" (PWild)) (SNone) (XBlock)))
expr a match { case b => { c } case d => { e }; case f => { } }
	(XMatch (XName "a") (SCase (PBind "b" (PWild)) (SNone) (XBlock (XName "c"))) (SCase (PBind "d" (PWild)) (SNone) (XBlock (XName "e"))) (SCase (PBind "f" (PWild)) (SNone) (XBlock)))
expr a match { case b => { c }.d }
	(XMatch (XName "a") (SCase (PBind "b" (PWild)) (SNone) (XSelect "d" (XBlock (XName "c")))))
expr a match { case b => { c } + d; e }
	(XMatch (XName "a") (SCase (PBind "b" (PWild)) (SNone) (XBlock (XInfix "+" (XBlock (XName "c")) (XName "d")) (XName "e"))))
expr a match { case b => { c; d } }
	(XMatch (XName "a") (SCase (PBind "b" (PWild)) (SNone) (XBlock (XName "c") (XName "d"))))
expr a match { case b => val c = d }
	(XMatch (XName "a") (SCase (PBind "b" (PWild)) (SNone) (XBlock (SVal "c" (SMods) (SNone) (XName "d")))))
expr a match { case b => ; }
	(XMatch (XName "a") (SCase (PBind "b" (PWild)) (SNone) (XBlock)))
expr a match { case b => c; import d; ; case e => final case class F }
	(XMatch (XName "a") (SCase (PBind "b" (PWild)) (SNone) (XBlock (XName "c") (SImport "d"))) (SCase (PBind "e" (PWild)) (SNone) (XBlock (SClass "F" 3 (SMods 2) (SNames) (SLists) (SParents) (SNone)))))
expr a match { case b if c => d }
	(XMatch (XName "a") (SCase (PBind "b" (PWild)) (XName "c") (XName "d")))
expr a match { case b if (c) => d }
	(XMatch (XName "a") (SCase (PBind "b" (PWild)) (XName "c") (XName "d")))
expr a match { case b if c => d => e }
	(XMatch (XName "a") (SCase (PBind "b" (PWild)) (XName "c") (XLambda (SLambdaParam "d" (SNone)) (XName "e"))))
expr a match { case b if f(x => y) && (c > d) => e }
	(XMatch (XName "a") (SCase (PBind "b" (PWild)) (XInfix "&&" (XApply (XName "f") (XLambda (SLambdaParam "x" (SNone)) (XName "y"))) (XInfix ">" (XName "c") (XName "d"))) (XName "e")))
expr a match { case b if (x => y) => e }
	(XMatch (XName "a") (SCase (PBind "b" (PWild)) (XLambda (SLambdaParam "x" (SNone)) (XName "y")) (XName "e")))
expr a match¶  case b =>¶    c¶    d¶  case e =>¶    f¶  case g => h
	(XMatch (XName "a") (SCase (PBind "b" (PWild)) (SNone) (XBlock (XName "c") (XName "d"))) (SCase (PBind "e" (PWild)) (SNone) (XBlock (XName "f"))) (SCase (PBind "g" (PWild)) (SNone) (XName "h")))
expr a match¶  case b =>¶    c¶  .d¶  case e => f
	(XMatch (XName "a") (SCase (PBind "b" (PWild)) (SNone) (XSelect "d" (XBlock (XName "c")))) (SCase (PBind "e" (PWild)) (SNone) (XName "f")))
expr { try a catch case b => c; d }
	(XBlock (XTry (XName "a") (SCases (SCase (PBind "b" (PWild)) (SNone) (XBlock (XName "c") (XName "d")))) (SNone)))
expr { try a catch case b => { c }; d }
	(XBlock (XTry (XName "a") (SCases (SCase (PBind "b" (PWild)) (SNone) (XBlock (XName "c")))) (SNone)) (XName "d"))
expr (try a catch case b => c)
	(XTry (XName "a") (SCases (SCase (PBind "b" (PWild)) (SNone) (XName "c"))) (SNone))
expr f(try a catch case b => c, d)
	(XApply (XName "f") (XTry (XName "a") (SCases (SCase (PBind "b" (PWild)) (SNone) (XName "c"))) (SNone)) (XName "d"))
expr if (a) try b catch case c => d; else e
	(XIf (XName "a") (XTry (XName "b") (SCases (SCase (PBind "c" (PWild)) (SNone) (XName "d"))) (SNone)) (XName "e"))
`

// P3.2: patterns.
const patternTrees = `
pattern _
	(PWild)
pattern _: A
	(PTyped "_" (TName "A"))
pattern x
	(PBind "x" (PWild))
pattern _x
	(PBind "_x" (PWild))
pattern X
	(PStable "X")
pattern x.y
	(PStable "x.y")
pattern X.y.Z
	(PStable "X.y.Z")
pattern x()
	(PApply "x")
pattern X(y, _, 1)
	(PApply "X" (PBind "y" (PWild)) (PWild) (PLiteral (XInt 1)))
pattern a.B(c | d)
	(PApply "a.B" (PAlt (PBind "c" (PWild)) (PBind "d" (PWild))))
pattern x: A
	(PTyped "x" (TName "A"))
pattern X: A
	(PTyped "X" (TName "A"))
pattern x: A | B & C
	(PTyped "x" (TOr (TName "A") (TAnd (TName "B") (TName "C"))))
pattern _: A | _: B
	(PAlt (PTyped "_" (TName "A")) (PTyped "_" (TName "B")))
pattern x: A | 1 | y: B
	(PAlt (PTyped "x" (TName "A")) (PLiteral (XInt 1)) (PTyped "y" (TName "B")))
pattern x: A | b(c)
	(PAlt (PTyped "x" (TName "A")) (PApply "b" (PBind "c" (PWild))))
pattern x: A | b @ null
	(PAlt (PTyped "x" (TName "A")) (PBind "b" (PLiteral (XNull))))
pattern x: A | b.c.D | b.c(_)
	(PAlt (PTyped "x" (TOr (TName "A") (TSelect "D" (XSelect "c" (XName "b"))))) (PApply "b.c" (PWild)))
pattern x: A | (A => B) | ((B)) | ((_))
	(PAlt (PTyped "x" (TOr (TOr (TName "A") (TFunction (TName "A") (TName "B"))) (TName "B"))) (PWild))
pattern x: A | (B) | (1)
	(PAlt (PTyped "x" (TOr (TName "A") (TName "B"))) (PLiteral (XInt 1)))
pattern x: (A => B)
	(PTyped "x" (TFunction (TName "A") (TName "B")))
pattern x @ _
	(PBind "x" (PWild))
pattern x @ A(y)
	(PBind "x" (PApply "A" (PBind "y" (PWild))))
pattern x @ (A | B)
	(PBind "x" (PAlt (PStable "A") (PStable "B")))
pattern 1
	(PLiteral (XInt 1))
pattern -1
	(PLiteral (XPrefix "-" (XInt 1)))
pattern -1L
	(PLiteral (XPrefix "-" (XLong 1)))
pattern 1L
	(PLiteral (XLong 1))
pattern 'a'
	(PLiteral (XChar 97))
pattern "a"
	(PLiteral (XString "a"))
pattern true
	(PLiteral (XTrue))
pattern false
	(PLiteral (XFalse))
pattern null
	(PLiteral (XNull))
pattern ()
	(PLiteral (XUnit))
pattern (a)
	(PBind "a" (PWild))
pattern A | B | c
	(PAlt (PStable "A") (PStable "B") (PBind "c" (PWild)))
pattern (A) | (_)
	(PAlt (PStable "A") (PWild))
`

func TestTrees(t *testing.T) {
	for _, table := range []string{definitionTrees, typeTrees, exprTrees, caseTrees, guardTrees, patternTrees} {
		lines := strings.Split(strings.Trim(table, "\n"), "\n")
		for i := 0; i < len(lines); i += 2 {
			rule, text, _ := strings.Cut(strings.ReplaceAll(lines[i], "¶", "\n"), " ")
			n, f := parse[rule](text)
			if got := form(n); f.Code != api.OK || "\t"+got != lines[i+1] {
				t.Errorf("%s %q: %v, %s\nwant%s", rule, text, f, got, lines[i+1])
			}
		}
	}
}

// P3.2: an expression of any kind stands behind return, and in a case.
func TestFirstTokens(t *testing.T) {
	for _, text := range []string{
		"a", "0", "1L", "'c'", `"s"`, `s"a"`, "true", "false", "null", "this", "super.a", "new A", "(a)", "()", "{ a }", "'{ a }", "${ a }",
		"-a", "!a", "~a", "+a", "_ => a", "() => a", "if (a) b", "while (a) b", "for (a <- b) c", "try a", "throw a", "return",
	} {
		n, f := parser.Expr(text)
		if f.Code != api.OK {
			t.Errorf("%q: %v", text, f)
		}
		if m, f := parser.Expr("return " + text); f.Code != api.OK || form(m) != "(XReturn "+form(n)+")" {
			t.Errorf("return %q: %v, %s", text, f, form(m))
		}
		if m, f := parser.Expr("a match { case b => " + text + " }"); f.Code != api.OK || !syntax.Equal(m.Kids[1].Kids[2], n) {
			t.Errorf("case %q: %v, %s", text, f, form(m))
		}
		if m, f := parser.Expr("a match { case b => c; " + text + " }"); f.Code != api.OK || !syntax.Equal(m.Kids[1].Kids[2].Kids[1], n) {
			t.Errorf("case %q: %v, %s", text, f, form(m))
		}
	}
}
