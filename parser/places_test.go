package parser_test

import (
	"strings"
	"testing"

	"newel/api"
	"newel/syntax"
	"newel/tokens"
)

// offsets has a rule and a text in one line, and the kinds of the nodes with
// their offsets in the next one; a line feed of a text is written as ¶. A node
// has the offset of its first token; parentheses around an expression, a type
// or a pattern belong to it, but those of a condition or of arguments do not.
const offsets = `
unit  ; val x
	SUnit@1(SVal@3(SMods@3 SNone@8 SNone@8))
unit  // c¶ val x;
	SUnit@7(SVal@7(SMods@7 SNone@12 SNone@12))
unit final val x: A = 1
	SUnit@0(SVal@0(SMods@0 TName@13 XInt@17))
unit class A
	SUnit@0(SClass@0(SMods@0 SNames@7 SLists@7 SParents@7 SNone@7))
unit private class A [B] (c: D) extends E { f }
	SUnit@0(SClass@0(SMods@0 SNames@16(STParam@17(SNone@18 SNone@18)) SLists@20(SParams@20(SParam@21(SMods@21 TName@24 SNone@25))) SParents@27(SParent@35(TName@35)) SBody@37(XName@39)))
unit object A
	SUnit@0(SClass@0(SMods@0 SNames@8 SLists@8 SParents@8 SNone@8))
unit enum A:¶  case B, C¶  case D
	SUnit@0(SClass@0(SMods@0 SNames@6 SLists@6 SParents@6 SBody@6(SEnumCase@15(SNames@16 SLists@16 SParents@16) SEnumCase@18(SNames@22 SLists@22 SParents@22) SEnumCase@22(SNames@28 SLists@28 SParents@28))))
unit import a
	SUnit@0(SImport@0)
unit type A = B
	SUnit@0(SType@0(SMods@0 SNames@7 SNone@7 SNone@7 TName@9))
unit type A >: B
	SUnit@0(SType@0(SMods@0 SNames@7 TName@10 SNone@11 SNone@11))
unit given a = b
	SUnit@0(SGiven@0(SMods@0 SNames@6 SLists@6 TName@6 XName@10))
unit given a: A = b
	SUnit@0(SGiven@0(SMods@0 SNames@7 SLists@7 TName@9 XName@13))
unit extension (a: A) def b
	SUnit@0(SExtension@0(SNames@10 SParam@11(SMods@11 TName@14 SNone@15) SDef@17(SMods@17 SNames@22 SLists@22 SNone@22 SNone@22)))
unit def f(val a: => A)
	SUnit@0(SDef@0(SMods@0 SNames@5 SLists@5(SParams@5(SParam@6(SMods@6 TName@16 SNone@17))) SNone@18 SNone@18))
expr (a)
	XName@0
expr ((a))
	XName@0
expr (a) + b * (c)
	XInfix@0(XName@0 XInfix@6(XName@6 XName@10))
expr ((a)).b
	XSelect@0(XName@0)
expr ( (a.b) ).c
	XSelect@0(XSelect@0(XName@3))
expr (a + b) * c
	XInfix@0(XInfix@0(XName@1 XName@5) XName@10)
expr (a) :: (b) :: c
	XInfix@0(XName@0 XInfix@7(XName@7 XName@14))
expr (f)(x)
	XApply@0(XName@0 XName@4)
expr f((x))
	XApply@0(XName@0 XName@2)
expr (f) { x }
	XApply@0(XName@0 XBlock@4(XName@6))
expr (x => y)(z)
	XApply@0(XLambda@0(SLambdaParam@1(SNone@3) XName@6) XName@9)
expr ({ a }).b
	XSelect@0(XBlock@0(XName@3))
expr (()).b
	XSelect@0(XUnit@0)
expr (y) = (x)
	XAssign@0(XName@0 XName@6)
expr (y) += x
	XAssign@0(XName@0 XName@7)
expr { (a).b; (c) }
	XBlock@0(XSelect@2(XName@2) XName@9)
expr (a: A).b
	XSelect@0(XTyped@0(XName@1 TName@4))
expr ((a): (A))
	XTyped@0(XName@1 TName@6)
expr ((a: A)) = 1
	XAssign@0(XTyped@0(XName@2 TName@5) XInt@11)
expr ()
	XUnit@0
expr a(b, c = d)
	XApply@0(XName@0 XName@2 XNamed@5(XName@9))
expr a { b }
	XApply@0(XName@0 XBlock@2(XName@4))
expr (a) match { case b => }
	XMatch@0(XName@0 SCase@12(PBind@17(PWild@19) SNone@19 XBlock@22))
expr a match { case (b) if (c) => (d).e }
	XMatch@0(XName@0 SCase@10(PBind@15(PWild@17) XName@22 XSelect@29(XName@29)))
expr a match { case b => (c); d case e if f => { g } }
	XMatch@0(XName@0 SCase@10(PBind@15(PWild@17) SNone@17 XBlock@20(XName@20 XName@25)) SCase@27(PBind@32(PWild@34) XName@37 XBlock@42(XName@44)))
expr if (a) b
	XIf@0(XName@4 XName@7 SNone@8)
expr if ((a)) (b) else (c)
	XIf@0(XName@4 XName@9 XName@18)
expr if ((a) + b) c
	XIf@0(XInfix@4(XName@4 XName@10) XName@13 SNone@14)
expr while ((a)) (b)
	XWhile@0(XName@7 XName@12)
expr x => y
	XLambda@0(SLambdaParam@0(SNone@2) XName@5)
expr (x, _) => y
	XLambda@0(SLambdaParam@1(SNone@2) SLambdaParam@4(SNone@5) XName@10)
expr for (x <- y; z = a if b) c
	XFor@0(SGenerator@5(PBind@5(PWild@7) XName@10) SBinding@13(PBind@13(PWild@15) XName@17) SGuard@19(XName@22) XName@25)
expr for ((x) <- (y); (z) = (a) if (b)) (c)
	XFor@0(SGenerator@5(PBind@5(PWild@7) XName@12) SBinding@17(PBind@17(PWild@19) XName@23) SGuard@27(XName@30) XName@35)
expr try (a)
	XTry@0(XName@4 SCases@7 SNone@7)
expr try a catch { case b => c }
	XTry@0(XName@4 SCases@12(SCase@14(PBind@19(PWild@21) SNone@21 XName@24)) SNone@27)
expr return
	XReturn@0(SNone@1)
expr new A { }
	XNew@0(SParents@4(SParent@4(TName@4)) SBody@6)
expr new (A) with B(c):¶  d
	XNew@0(SParents@4(SParent@4(TName@4) SParent@13(TName@13 XName@15)) SBody@17(XName@21))
expr new A((b)) with ((C)[D])
	XNew@0(SParents@4(SParent@4(TName@4 XName@6) SParent@16(TApply@16(TName@17 TName@21))) SNone@24)
expr super.a.b
	XSelect@0(XSelect@0(XSuper@0))
expr '{ a }
	XQuote@0(XBlock@0(XName@3))
expr ${ }
	XSplice@0(XBlock@0)
expr s"a${(b)}$this$c"
	XInterp@0(XString@2 XName@5 XString@9 XThis@10 XString@14 XName@15 XString@16)
expr {¶ a }
	XBlock@0(XName@3)
expr - (a)
	XPrefix@0(XName@2)
expr (- a) - b
	XInfix@0(XPrefix@0(XName@3) XName@8)
expr (a)[B]
	XTypes@0(XName@0 TName@4)
unit val x: (A) = (b)
	SUnit@0(SVal@0(SMods@0 TName@7 XName@13))
unit class A extends (B), (C)(d)
	SUnit@0(SClass@0(SMods@0 SNames@8 SLists@8 SParents@8(SParent@16(TName@16) SParent@21(TName@21 XName@25)) SNone@27))
unit given (A) = b
	SUnit@0(SGiven@0(SMods@0 SNames@6 SLists@6 TName@6 XName@12))
type (A)
	TName@0
type ((A))
	TName@0
type (A)[B]
	TApply@0(TName@0 TName@4)
type (A)[(B)][C]
	TApply@0(TApply@0(TName@0 TName@4) TName@9)
type (A) & (B)
	TAnd@0(TName@0 TName@6)
type (A | B) & C
	TAnd@0(TOr@0(TName@1 TName@5) TName@10)
type (A) match { case (B) => (C) }
	TMatch@0(TName@0 TCase@12(TName@17 TName@24))
type (A => B) => C
	TFunction@0(TFunction@1(TName@1 TName@6) TName@12)
type ((A)) => B
	TFunction@0(TName@1 TName@9)
type (A) & B => (C)
	TFunction@0(TAnd@0(TName@0 TName@6) TName@11)
type ([A] =>> B)
	TLambda@0(SNames@1(STParam@2(SNone@3 SNone@3)) TName@9)
type (this.a.type)
	TSingle@0(XSelect@1(XThis@1))
type a.b.C
	TSelect@0(XSelect@0(XName@0))
type this.a.type
	TSingle@0(XSelect@0(XThis@0))
type (A) => B
	TFunction@0(TName@1 TName@7)
type (A) => (B)
	TFunction@0(TName@1 TName@7)
type A => B
	TFunction@0(TName@0 TName@5)
type A[_, _ <: B]
	TApply@0(TName@0 TWild@2(SNone@3 SNone@3) TWild@5(SNone@7 TName@10))
type [+A[_] <: B] =>> A
	TLambda@0(SNames@0(STParam@1(SNone@7 TName@10 SNone@4)) TName@17)
type (A) | B & C
	TOr@0(TName@0 TAnd@6(TName@6 TName@10))
type A match { case B => C }
	TMatch@0(TName@0 TCase@10(TName@15 TName@20))
pattern a
	PBind@0(PWild@1)
pattern (A)
	PStable@0
pattern ((a))
	PBind@0(PWild@3)
pattern (())
	PLiteral@0(XUnit@1)
pattern (-1)
	PLiteral@0(XPrefix@1(XInt@2))
pattern A((_), (b: (B)))
	PApply@0(PWild@2 PTyped@7(TName@11))
pattern -1
	PLiteral@0(XPrefix@0(XInt@1))
pattern a @ (B)
	PBind@0(PStable@4)
pattern (a @ (B)) | _
	PAlt@0(PBind@0(PStable@5) PWild@12)
pattern a: B
	PTyped@0(TName@3)
pattern (a.b) | C(_)
	PAlt@0(PStable@0 PApply@8(PWild@10))
pattern a: A | (B) | (_)
	PAlt@0(PTyped@0(TOr@3(TName@3 TName@7)) PWild@13)
expr a match { case b => import c }
	XMatch@0(XName@0 SCase@10(PBind@15(PWild@17) SNone@17 XBlock@20(SImport@20)))
expr f(a => (b), (c) = d)
	XApply@0(XName@0 XLambda@2(SLambdaParam@2(SNone@4) XName@7) XAssign@12(XName@12 XName@18))
expr try a catch case b => c finally d
	XTry@0(XName@4 SCases@12(SCase@12(PBind@17(PWild@19) SNone@19 XName@22)) XName@32)
expr while a do b
	XWhile@0(XName@6 XName@11)
`

// P3.1: At of a node is that of its first token, or of the token behind it.
func TestPlaces(t *testing.T) {
	lines := strings.Split(strings.Trim(offsets, "\n"), "\n")
	for i := 0; i < len(lines); i += 2 {
		rule, text, _ := strings.Cut(strings.ReplaceAll(lines[i], "¶", "\n"), " ")
		n, f := parse[rule](text)
		if got := places(n); f.Code != api.OK || "\t"+got != lines[i+1] {
			t.Errorf("%s %q: %v, %s\nwant%s", rule, text, f, got, lines[i+1])
		}
	}
}

// bracketed reads a text between brackets that do not belong to its node: those
// of a condition, of type arguments and of the arguments of a pattern.
func bracketed(kind, text string) (syntax.Node, bool) {
	head := map[string]string{"expr": "if (", "type": "A[", "pattern": "A("}[kind]
	tail := map[string]string{"expr": ") a", "type": "]", "pattern": ")"}[kind]
	n, f := parse[kind](head + text + tail)
	if f.Code != api.OK {
		return n, false
	}
	index := map[string]int{"expr": 0, "type": 1, "pattern": 0}[kind]
	return moved(n.Kids[index], -len(head)), true
}

// ends has what can stand behind a text in parentheses, which begins the node
// of both, by what the text is.
var ends = map[string][]string{
	"expr":    {".c", "[C]", "(c)", " { c }", " + c", " :: c", " = c", " += c", " match { case _ => c }"},
	"type":    {"[C]", " & C", " | C", " match { case C => C }"},
	"pattern": {" | C"},
}

// checkBegins checks that a text in parentheses has a tree with certain places,
// and that a node that begins with it begins there, too.
func checkBegins(t *testing.T, kind, text string, want syntax.Node) {
	if n, f := parse[kind](text); f.Code != api.OK || places(n) != places(want) {
		t.Fatalf("%s %q: %v, %s\nwant %s", kind, text, f, places(n), places(want))
	}
	for _, end := range ends[kind] {
		n, f := parse[kind](text + end)
		if f.Code == api.ErrForm || f.Code == api.ErrDepth {
			continue // an alternative in an alternative, or the deepest tree
		}
		if f.Code != api.OK || n.At != 0 || places(n.Kids[0]) != places(want) {
			t.Fatalf("%s %q: %v, %s\nwant one that begins with %s", kind, text+end, f, places(n), places(want))
		}
	}
}

// P3.1, P3.2: parentheses belong to the node in them, and to all nodes that
// begin with it.
func TestPlacesOfParentheses(t *testing.T) {
	x := newGenerator(readGrammar(rules), 6)
	right := 0
	for range 2000 {
		for _, kind := range kinds[1:] {
			list := x.list(kind, 4+x.r.Intn(10))
			text, code := tokens.Show(list)
			n, ok := bracketed(kind, text)
			if len(list) > 60 || code != api.OK || !ok {
				continue
			}
			right++
			for level := 1; level <= 3; level++ {
				want := moved(n, level)
				want.At = 0
				checkBegins(t, kind, strings.Repeat("(", level)+text+strings.Repeat(")", level), want)
			}
		}
	}
	if right < 2000 {
		t.Errorf("only %d", right)
	}
}

// beginsWithKid reports whether what a node consists of begins with its first
// kid.
func beginsWithKid(kind int) bool {
	switch kind {
	case syntax.XSelect, syntax.XApply, syntax.XTypes, syntax.XInfix, syntax.XAssign, syntax.XMatch,
		syntax.TSelect, syntax.TApply, syntax.TAnd, syntax.TOr, syntax.TSingle, syntax.TMatch,
		syntax.PAlt, syntax.PLiteral, syntax.SGenerator, syntax.SBinding, syntax.SParent,
		syntax.SDef, syntax.SVal, syntax.SType, syntax.SGiven, syntax.SParam:
		return true
	}
	return false
}

// checkPlaces checks that each node that begins with another one has its
// place, or that of a parenthesis around itself, and that no node begins in
// front of the one that it is in.
func checkPlaces(t *testing.T, text string, n syntax.Node) {
	if beginsWithKid(n.Kind) && n.At != n.Kids[0].At && text[n.At] != '(' {
		t.Fatalf("%q: %s", text, places(n))
	}
	for _, k := range n.Kids {
		if k.At < n.At {
			t.Fatalf("%q: %s", text, places(n))
		}
		checkPlaces(t, text, k)
	}
}

// P3.1, P3.2: a node that begins with another node has its At.
func TestPlacesOfRandomTexts(t *testing.T) {
	right := 0
	randomTexts(7, 6000, func(kind, text string, list []tokens.Token) {
		n, f := parse[kind](text)
		if f.Code == api.OK {
			right++
			checkPlaces(t, text, n)
		}
	})
	if right < 1000 {
		t.Errorf("only %d", right)
	}
}

// moved returns a tree with other offsets.
func moved(n syntax.Node, by int) syntax.Node {
	n.At += by
	kids := n.Kids
	n.Kids = nil
	for _, k := range kids {
		n.Kids = append(n.Kids, moved(k, by))
	}
	return n
}

// P3.4: what stands in front of a text changes nothing but the places.
func TestMoved(t *testing.T) {
	const head = "// c\n\n"
	for _, table := range []string{offsets, definitionTrees, typeTrees, exprTrees, caseTrees, patternTrees} {
		lines := strings.Split(strings.Trim(table, "\n"), "\n")
		for i := 0; i < len(lines); i += 2 {
			rule, text, _ := strings.Cut(strings.ReplaceAll(lines[i], "¶", "\n"), " ")
			if strings.Trim(text, " \n") == "" {
				continue // Stop is at 0
			}
			m, _ := parse[rule](text)
			n, _ := parse[rule](head + text)
			if want := places(moved(m, len(head))); places(n) != want {
				t.Errorf("%s %q: %s, want %s", rule, text, places(n), want)
			}
		}
	}
}
