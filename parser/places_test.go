package parser_test

import (
	"strings"
	"testing"

	"newel/api"
	"newel/syntax"
)

// offsets has a rule and a text in one line, and the kinds of the nodes with
// their offsets in the next one; a line feed of a text is written as ¶. A node
// has the offset of its first token; parentheses around an expression, a type
// or a pattern do not belong to it.
const offsets = `
unit  ; val x
	SUnit@1(SVal@3(SMods@3 SNone@8 SNone@8))
unit  // c¶ val x;
	SUnit@7(SVal@7(SMods@7 SNone@12 SNone@12))
unit final val x: A = 1
	SUnit@0(SVal@0(SMods@0 TName@13 XInt@17))
unit class A
	SUnit@0(SClass@0(SMods@0 SNames@7 SLists@7 SParents@7 SNone@7))
unit private class A [B] (c: D) extends E { f }
	SUnit@0(SClass@0(SMods@0 SNames@16(STParam@17(SNone@18 SNone@18)) SLists@20(SParams@20(SParam@21(SMods@21 TName@24 SNone@25))) SParents@27(SParent@35(TName@35)) SBody@37(XName@39)))
unit object A
	SUnit@0(SClass@0(SMods@0 SNames@8 SLists@8 SParents@8 SNone@8))
unit enum A:¶  case B, C¶  case D
	SUnit@0(SClass@0(SMods@0 SNames@6 SLists@6 SParents@6 SBody@6(SEnumCase@15(SNames@16 SLists@16 SParents@16) SEnumCase@18(SNames@22 SLists@22 SParents@22) SEnumCase@22(SNames@28 SLists@28 SParents@28))))
unit import a
	SUnit@0(SImport@0)
unit type A = B
	SUnit@0(SType@0(SMods@0 SNames@7 SNone@7 SNone@7 TName@9))
unit type A >: B
	SUnit@0(SType@0(SMods@0 SNames@7 TName@10 SNone@11 SNone@11))
unit given a = b
	SUnit@0(SGiven@0(SMods@0 SNames@6 SLists@6 TName@6 XName@10))
unit given a: A = b
	SUnit@0(SGiven@0(SMods@0 SNames@7 SLists@7 TName@9 XName@13))
unit extension (a: A) def b
	SUnit@0(SExtension@0(SNames@10 SParam@11(SMods@11 TName@14 SNone@15) SDef@17(SMods@17 SNames@22 SLists@22 SNone@22 SNone@22)))
unit def f(val a: => A)
	SUnit@0(SDef@0(SMods@0 SNames@5 SLists@5(SParams@5(SParam@6(SMods@6 TName@16 SNone@17))) SNone@18 SNone@18))
expr (a)
	XName@1
expr (a) + b * (c)
	XInfix@1(XName@1 XInfix@6(XName@6 XName@11))
expr (a: A).b
	XSelect@0(XTyped@0(XName@1 TName@4))
expr ((a: A)) = 1
	XAssign@1(XTyped@1(XName@2 TName@5) XInt@11)
expr ()
	XUnit@0
expr a(b, c = d)
	XApply@0(XName@0 XName@2 XNamed@5(XName@9))
expr a { b }
	XApply@0(XName@0 XBlock@2(XName@4))
expr (a) match { case b => }
	XMatch@1(XName@1 SCase@12(PBind@17(PWild@19) SNone@19 XBlock@22))
expr a match { case b => (c); d case e if f => { g } }
	XMatch@0(XName@0 SCase@10(PBind@15(PWild@17) SNone@17 XBlock@21(XName@21 XName@25)) SCase@27(PBind@32(PWild@34) XName@37 XBlock@42(XName@44)))
expr if (a) b
	XIf@0(XName@4 XName@7 SNone@8)
expr x => y
	XLambda@0(SLambdaParam@0(SNone@2) XName@5)
expr (x, _) => y
	XLambda@0(SLambdaParam@1(SNone@2) SLambdaParam@4(SNone@5) XName@10)
expr for (x <- y; z = a if b) c
	XFor@0(SGenerator@5(PBind@5(PWild@7) XName@10) SBinding@13(PBind@13(PWild@15) XName@17) SGuard@19(XName@22) XName@25)
expr try (a)
	XTry@0(XName@5 SCases@7 SNone@7)
expr try a catch { case b => c }
	XTry@0(XName@4 SCases@12(SCase@14(PBind@19(PWild@21) SNone@21 XName@24)) SNone@27)
expr return
	XReturn@0(SNone@1)
expr new A { }
	XNew@0(SParents@4(SParent@4(TName@4)) SBody@6)
expr new (A) with B(c):¶  d
	XNew@0(SParents@5(SParent@5(TName@5) SParent@13(TName@13 XName@15)) SBody@17(XName@21))
expr super.a.b
	XSelect@0(XSelect@0(XSuper@0))
expr '{ a }
	XQuote@0(XBlock@0(XName@3))
expr ${ }
	XSplice@0(XBlock@0)
expr s"a${(b)}$this$c"
	XInterp@0(XString@2 XName@6 XString@9 XThis@10 XString@14 XName@15 XString@16)
expr {¶ a }
	XBlock@0(XName@3)
expr - (a)
	XPrefix@0(XName@3)
expr (a)[B]
	XTypes@1(XName@1 TName@4)
type (A)
	TName@1
type (A)[B]
	TApply@1(TName@1 TName@4)
type a.b.C
	TSelect@0(XSelect@0(XName@0))
type this.a.type
	TSingle@0(XSelect@0(XThis@0))
type (A) => B
	TFunction@0(TName@1 TName@7)
type A => B
	TFunction@0(TName@0 TName@5)
type A[_, _ <: B]
	TApply@0(TName@0 TWild@2(SNone@3 SNone@3) TWild@5(SNone@7 TName@10))
type [+A[_] <: B] =>> A
	TLambda@0(SNames@0(STParam@1(SNone@7 TName@10 SNone@4)) TName@17)
type (A) | B & C
	TOr@1(TName@1 TAnd@6(TName@6 TName@10))
type A match { case B => C }
	TMatch@0(TName@0 TCase@10(TName@15 TName@20))
pattern a
	PBind@0(PWild@1)
pattern (A)
	PStable@1
pattern -1
	PLiteral@0(XPrefix@0(XInt@1))
pattern a @ (B)
	PBind@0(PStable@5)
pattern a: B
	PTyped@0(TName@3)
pattern (a.b) | C(_)
	PAlt@1(PStable@1 PApply@8(PWild@10))
pattern a: A | (B) | (_)
	PAlt@0(PTyped@0(TOr@3(TName@3 TName@8)) PWild@14)
expr a match { case b => import c }
	XMatch@0(XName@0 SCase@10(PBind@15(PWild@17) SNone@17 XBlock@20(SImport@20)))
expr f(a => (b), (c) = d)
	XApply@0(XName@0 XLambda@2(SLambdaParam@2(SNone@4) XName@8) XAssign@13(XName@13 XName@18))
expr try a catch case b => c finally d
	XTry@0(XName@4 SCases@12(SCase@12(PBind@17(PWild@19) SNone@19 XName@22)) XName@32)
expr while a do b
	XWhile@0(XName@6 XName@11)
`

// P3.1: At of a node is that of its first token, or of the token behind it.
func TestPlaces(t *testing.T) {
	lines := strings.Split(strings.Trim(offsets, "\n"), "\n")
	for i := 0; i < len(lines); i += 2 {
		rule, text, _ := strings.Cut(strings.ReplaceAll(lines[i], "¶", "\n"), " ")
		n, f := parse[rule](text)
		if got := places(n); f.Code != api.OK || "\t"+got != lines[i+1] {
			t.Errorf("%s %q: %v, %s\nwant%s", rule, text, f, got, lines[i+1])
		}
	}
}

// moved returns a tree with other offsets.
func moved(n syntax.Node, by int) syntax.Node {
	n.At += by
	kids := n.Kids
	n.Kids = nil
	for _, k := range kids {
		n.Kids = append(n.Kids, moved(k, by))
	}
	return n
}

// P3.4: what stands in front of a text changes nothing but the places.
func TestMoved(t *testing.T) {
	const head = "// c\n\n"
	for _, table := range []string{offsets, definitionTrees, typeTrees, exprTrees, caseTrees, patternTrees} {
		lines := strings.Split(strings.Trim(table, "\n"), "\n")
		for i := 0; i < len(lines); i += 2 {
			rule, text, _ := strings.Cut(strings.ReplaceAll(lines[i], "¶", "\n"), " ")
			if strings.Trim(text, " \n") == "" {
				continue // Stop is at 0
			}
			m, _ := parse[rule](text)
			n, _ := parse[rule](head + text)
			if want := places(moved(m, len(head))); places(n) != want {
				t.Errorf("%s %q: %s, want %s", rule, text, places(n), want)
			}
		}
	}
}
