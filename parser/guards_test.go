package parser_test

import (
	"math/rand"
	"strings"
	"testing"

	"newel/api"
	"newel/syntax"
)

// P3.1, P3.2: a guard is an expression, which may be a lambda or have one
// inside; the => behind it is not the first one then.
const guardTrees = `
expr a match { case b if () => true => c }
	(XMatch (XName "a") (SCase (PBind "b" (PWild)) (XLambda (XTrue)) (XName "c")))
expr a match { case b if () => c }
	(XMatch (XName "a") (SCase (PBind "b" (PWild)) (XUnit) (XName "c")))
expr a match { case b if _ => 1 => c }
	(XMatch (XName "a") (SCase (PBind "b" (PWild)) (XLambda (SLambdaParam "_" (SNone)) (XInt 1)) (XName "c")))
expr a match { case b if _ => c => d }
	(XMatch (XName "a") (SCase (PBind "b" (PWild)) (XLambda (SLambdaParam "_" (SNone)) (XName "c")) (XName "d")))
expr a match { case b if c => 1 => d }
	(XMatch (XName "a") (SCase (PBind "b" (PWild)) (XLambda (SLambdaParam "c" (SNone)) (XInt 1)) (XName "d")))
expr a match { case b if (c) => 1 => d }
	(XMatch (XName "a") (SCase (PBind "b" (PWild)) (XLambda (SLambdaParam "c" (SNone)) (XInt 1)) (XName "d")))
expr a match { case b if (c, d) => 1 => e }
	(XMatch (XName "a") (SCase (PBind "b" (PWild)) (XLambda (SLambdaParam "c" (SNone)) (SLambdaParam "d" (SNone)) (XInt 1)) (XName "e")))
expr a match { case b if (c, d) => e => f }
	(XMatch (XName "a") (SCase (PBind "b" (PWild)) (XLambda (SLambdaParam "c" (SNone)) (SLambdaParam "d" (SNone)) (XName "e")) (XName "f")))
expr a match { case b if (_) => c => d }
	(XMatch (XName "a") (SCase (PBind "b" (PWild)) (XLambda (SLambdaParam "_" (SNone)) (XName "c")) (XName "d")))
expr a match { case b if (c: T) => 1 => d }
	(XMatch (XName "a") (SCase (PBind "b" (PWild)) (XLambda (SLambdaParam "c" (TName "T")) (XInt 1)) (XName "d")))
expr a match { case b if (c: T) => d }
	(XMatch (XName "a") (SCase (PBind "b" (PWild)) (XTyped (XName "c") (TName "T")) (XName "d")))
expr a match { case b if c => d => 1 => e }
	(XMatch (XName "a") (SCase (PBind "b" (PWild)) (XLambda (SLambdaParam "c" (SNone)) (XLambda (SLambdaParam "d" (SNone)) (XInt 1))) (XName "e")))
expr a match { case b if c => (d + 1) => e }
	(XMatch (XName "a") (SCase (PBind "b" (PWild)) (XLambda (SLambdaParam "c" (SNone)) (XInfix "+" (XName "d") (XInt 1))) (XName "e")))
expr a match { case b if (c + 1) => (d, e) => f }
	(XMatch (XName "a") (SCase (PBind "b" (PWild)) (XInfix "+" (XName "c") (XInt 1)) (XLambda (SLambdaParam "d" (SNone)) (SLambdaParam "e" (SNone)) (XName "f"))))
expr a match { case b if c => { d } => e }
	(XMatch (XName "a") (SCase (PBind "b" (PWild)) (XLambda (SLambdaParam "c" (SNone)) (XBlock (XName "d"))) (XName "e")))
expr a match { case b if c => { d } + 1; e }
	(XMatch (XName "a") (SCase (PBind "b" (PWild)) (XName "c") (XBlock (XInfix "+" (XBlock (XName "d")) (XInt 1)) (XName "e"))))
expr a match { case b if c => d => { e }; f }
	(XMatch (XName "a") (SCase (PBind "b" (PWild)) (XName "c") (XBlock (XLambda (SLambdaParam "d" (SNone)) (XBlock (XName "e"))) (XName "f"))))
expr a match { case b if c => d => val e = 1 }
	(XMatch (XName "a") (SCase (PBind "b" (PWild)) (XLambda (SLambdaParam "c" (SNone)) (XName "d")) (XBlock (SVal "e" (SMods) (SNone) (XInt 1)))))
expr a match { case b if c => d => }
	(XMatch (XName "a") (SCase (PBind "b" (PWild)) (XLambda (SLambdaParam "c" (SNone)) (XName "d")) (XBlock)))
expr a match { case b if c => d => case e if f => }
	(XMatch (XName "a") (SCase (PBind "b" (PWild)) (XLambda (SLambdaParam "c" (SNone)) (XName "d")) (XBlock)) (SCase (PBind "e" (PWild)) (XName "f") (XBlock)))
expr a match { case b if if c then d => 1 else 2 => e }
	(XMatch (XName "a") (SCase (PBind "b" (PWild)) (XIf (XName "c") (XLambda (SLambdaParam "d" (SNone)) (XInt 1)) (XInt 2)) (XName "e")))
expr a match { case b if if (c) d => 1; else 2 => e }
	(XMatch (XName "a") (SCase (PBind "b" (PWild)) (XIf (XName "c") (XLambda (SLambdaParam "d" (SNone)) (XInt 1)) (XInt 2)) (XName "e")))
expr a match { case b if if c then d else e => 1 => f }
	(XMatch (XName "a") (SCase (PBind "b" (PWild)) (XIf (XName "c") (XName "d") (XLambda (SLambdaParam "e" (SNone)) (XInt 1))) (XName "f")))
expr a match { case b if if c => 1 then d => e }
	(XMatch (XName "a") (SCase (PBind "b" (PWild)) (XIf (XLambda (SLambdaParam "c" (SNone)) (XInt 1)) (XName "d") (SNone)) (XName "e")))
expr a match { case b if while (c) d => 1 => e }
	(XMatch (XName "a") (SCase (PBind "b" (PWild)) (XWhile (XName "c") (XLambda (SLambdaParam "d" (SNone)) (XInt 1))) (XName "e")))
expr a match { case b if while c => d do e => f }
	(XMatch (XName "a") (SCase (PBind "b" (PWild)) (XWhile (XLambda (SLambdaParam "c" (SNone)) (XName "d")) (XName "e")) (XName "f")))
expr a match { case b if for c <- d => e; f <- g => h yield 1 => i }
	(XMatch (XName "a") (SCase (PBind "b" (PWild)) (XFor 1 (SGenerator (PBind "c" (PWild)) (XLambda (SLambdaParam "d" (SNone)) (XName "e"))) (SGenerator (PBind "f" (PWild)) (XLambda (SLambdaParam "g" (SNone)) (XName "h"))) (XInt 1)) (XName "i")))
expr a match { case b if for (c <- d) yield e => 1 => f }
	(XMatch (XName "a") (SCase (PBind "b" (PWild)) (XFor 1 (SGenerator (PBind "c" (PWild)) (XName "d")) (XLambda (SLambdaParam "e" (SNone)) (XInt 1))) (XName "f")))
expr a match { case b if throw c => 1 => d }
	(XMatch (XName "a") (SCase (PBind "b" (PWild)) (XThrow (XLambda (SLambdaParam "c" (SNone)) (XInt 1))) (XName "d")))
expr a match { case b if return c => 1 => d }
	(XMatch (XName "a") (SCase (PBind "b" (PWild)) (XReturn (XLambda (SLambdaParam "c" (SNone)) (XInt 1))) (XName "d")))
expr a match { case b if c = d => 1 => e }
	(XMatch (XName "a") (SCase (PBind "b" (PWild)) (XAssign "=" (XName "c") (XLambda (SLambdaParam "d" (SNone)) (XInt 1))) (XName "e")))
expr a match { case b if try c => d finally e => f }
	(XMatch (XName "a") (SCase (PBind "b" (PWild)) (XTry (XLambda (SLambdaParam "c" (SNone)) (XName "d")) (SCases) (XName "e")) (XName "f")))
expr a match { case b if try c catch { case d => e } => f }
	(XMatch (XName "a") (SCase (PBind "b" (PWild)) (XTry (XName "c") (SCases (SCase (PBind "d" (PWild)) (SNone) (XName "e"))) (SNone)) (XName "f")))
expr a match { case b if c match { case d if e => 1 => f } => g }
	(XMatch (XName "a") (SCase (PBind "b" (PWild)) (XMatch (XName "c") (SCase (PBind "d" (PWild)) (XLambda (SLambdaParam "e" (SNone)) (XInt 1)) (XName "f"))) (XName "g")))
expr a match { case b if c => 1 => d; e case f if g => 2 => h }
	(XMatch (XName "a") (SCase (PBind "b" (PWild)) (XLambda (SLambdaParam "c" (SNone)) (XInt 1)) (XBlock (XName "d") (XName "e"))) (SCase (PBind "f" (PWild)) (XLambda (SLambdaParam "g" (SNone)) (XInt 2)) (XName "h")))
expr a match¶  case b if c =>¶    d¶  => e¶  case f if g =>¶    h
	(XMatch (XName "a") (SCase (PBind "b" (PWild)) (XLambda (SLambdaParam "c" (SNone)) (XBlock (XName "d"))) (XName "e")) (SCase (PBind "f" (PWild)) (XName "g") (XBlock (XName "h"))))
expr try a catch case b if c => 1 => d
	(XTry (XName "a") (SCases (SCase (PBind "b" (PWild)) (XLambda (SLambdaParam "c" (SNone)) (XInt 1)) (XName "d"))) (SNone))
expr try a catch { case b if _ => c => d } finally e
	(XTry (XName "a") (SCases (SCase (PBind "b" (PWild)) (XLambda (SLambdaParam "_" (SNone)) (XName "c")) (XName "d"))) (XName "e"))
expr f(try a catch case b if c => 1 => d, e)
	(XApply (XName "f") (XTry (XName "a") (SCases (SCase (PBind "b" (PWild)) (XLambda (SLambdaParam "c" (SNone)) (XInt 1)) (XName "d"))) (SNone)) (XName "e"))
expr if a then try b catch case c if if d then e => f else 1 => g
	(XIf (XName "a") (XTry (XName "b") (SCases (SCase (PBind "c" (PWild)) (XIf (XName "d") (XLambda (SLambdaParam "e" (SNone)) (XName "f")) (XInt 1)) (XName "g"))) (SNone)) (SNone))
expr if a then try b catch case c if if d then e => f else 1
	(XIf (XName "a") (XTry (XName "b") (SCases (SCase (PBind "c" (PWild)) (XIf (XName "d") (XName "e") (SNone)) (XName "f"))) (SNone)) (XInt 1))
expr { if a then try b catch case c if if d then e => f else g => h; i; finally j }
	(XBlock (XIf (XName "a") (XTry (XName "b") (SCases (SCase (PBind "c" (PWild)) (XIf (XName "d") (XLambda (SLambdaParam "e" (SNone)) (XName "f")) (XName "g")) (XBlock (XName "h") (XName "i")))) (XName "j")) (SNone)))
expr a match { case b if try c catch case d => e => f }
	(XMatch (XName "a") (SCase (PBind "b" (PWild)) (XTry (XName "c") (SCases (SCase (PBind "d" (PWild)) (SNone) (XName "e"))) (SNone)) (XName "f")))
expr a match { case b if try c catch case d if e => 1 => f }
	(XMatch (XName "a") (SCase (PBind "b" (PWild)) (XTry (XName "c") (SCases (SCase (PBind "d" (PWild)) (XName "e") (XInt 1))) (SNone)) (XName "f")))
expr a match { case b if try c catch case d if e => f finally 1 => g }
	(XMatch (XName "a") (SCase (PBind "b" (PWild)) (XTry (XName "c") (SCases (SCase (PBind "d" (PWild)) (XName "e") (XName "f"))) (XInt 1)) (XName "g")))
expr a match { case b if try c catch case d if try e => 1 finally 2 => 3 => f }
	(XMatch (XName "a") (SCase (PBind "b" (PWild)) (XTry (XName "c") (SCases (SCase (PBind "d" (PWild)) (XTry (XLambda (SLambdaParam "e" (SNone)) (XInt 1)) (SCases) (XInt 2)) (XInt 3))) (SNone)) (XName "f")))
expr a match { case b if try c catch case d => val e: A => B => 1 }
	(XMatch (XName "a") (SCase (PBind "b" (PWild)) (XTry (XName "c") (SCases (SCase (PBind "d" (PWild)) (SNone) (XBlock (SVal "e" (SMods) (TName "A") (SNone))))) (SNone)) (XLambda (SLambdaParam "B" (SNone)) (XInt 1))))
expr a match { case b if try c catch case d => val e: (A, B) => C => 1 }
	(XMatch (XName "a") (SCase (PBind "b" (PWild)) (XTry (XName "c") (SCases (SCase (PBind "d" (PWild)) (SNone) (XBlock (SVal "e" (SMods) (TFunction (TName "A") (TName "B") (TName "C")) (SNone))))) (SNone)) (XInt 1)))
expr a match { case b if try c catch case d => given A => B = e => 1 }
	(XMatch (XName "a") (SCase (PBind "b" (PWild)) (XTry (XName "c") (SCases (SCase (PBind "d" (PWild)) (SNone) (XBlock (SGiven (SMods) (SNames) (SLists) (TFunction (TName "A") (TName "B")) (XName "e"))))) (SNone)) (XInt 1)))
unit val a = b match { case c if d => 1 => e }; val f
	(SUnit (SVal "a" (SMods) (SNone) (XMatch (XName "b") (SCase (PBind "c" (PWild)) (XLambda (SLambdaParam "d" (SNone)) (XInt 1)) (XName "e")))) (SVal "f" (SMods) (SNone) (SNone)))
`

// P3.2: where no rule goes on with any of the => as the end of a guard.
const guardFaults = `
a match { case b if _ => c ^}
a match { case b if (c, d) => e ^}
a match { case b if (c, d ^+ 1) => e => f }
a match { case b if (c + d^, e) => f => g }
a match { case b if (c, d) => 1 => (^2 + e) => f }
a match { case b if c + d => 1 ^=> e }
a match { case b if 1 => 2 ^=> c }
a match { case b if c => 1 => 2 ^=> d }
a match { case b if c => 1 => d ^e }
a match { case b if c => 1 ^d => e }
a match { case b if c => 1 => d; ^=> e }
a match { case b if c => { d }; ^e => f }
a match { case b if c => val d = 1 ^=> e }
a match { case b if if c then d => 1 else 2 ^}
a match { case b if if c then d => 1 else 2^; }
a match { case b if if c then _ => 1; ^}
a match { case b if if c => 1 ^=> d }
a match { case b if if c => (d ^+ 1) => e then f => g }
a match { case b if for c <- d => (e ^+ 1) => f yield g => h }
a match { case b if for c <- d yield _ => 1 ^}
a match { case b if c => 1 => ^else d }
a match { case b if c => d ^else e => f }
a match { case b if try c catch case d if e => 1 ^}
a match { case b if try c catch case d if e => 1; f ^}
a match { case b if c match { case d if e => 1 => f } ^}
try a catch case b if 1 => 2 ^=> c
try a catch case b if _ => c^
(try a catch case b if (c, d) => e^)
f(try a catch case b if c => 1 => 2 ^=> d, e)
if a then try b catch case c if d => 1 => else 2 ^=> e
`

// guardTexts writes random cases with guards that have lambdas and cases
// inside, outside of brackets.
type guardTexts struct{ r *rand.Rand }

func (x guardTexts) one(texts ...string) string { return texts[x.r.Intn(len(texts))] }

func (x guardTexts) expr(depth int) string {
	if depth <= 0 {
		return x.one("a", "1", "(a)", "()", "(a: T)", "{ a }", "a + 1")
	}
	switch x.r.Intn(12) {
	case 0, 1, 2:
		return x.one("a", "_", "(a)", "()", "(a, b)", "(a: T)") + " => " + x.expr(depth-1)
	case 3, 4:
		head := x.one("if a then ", "if (a) ", "if 1 + "+x.one("a", "(a)")+" then ")
		return head + x.expr(depth-1) + x.one("", " else "+x.expr(depth-1), " ; else "+x.expr(depth-1))
	case 5:
		return x.one("while a do ", "for (a <- b) ", "for a <- "+x.expr(depth-2)+" yield ", "throw ", "return ", "a = ") + x.expr(depth-1)
	case 6, 7, 8:
		head := "try " + x.expr(depth/2) + x.one(" ", " ; ") + "catch "
		if x.r.Intn(6) == 0 {
			return head + "{ " + x.oneCase(depth-1) + " }"
		}
		return head + x.oneCase(depth-1) + x.one("", "", " finally "+x.expr(depth-1), " ; finally "+x.expr(depth-1))
	case 9:
		return "a match { " + x.oneCase(depth-1) + " " + x.oneCase(depth-2) + " }"
	case 10:
		return "(" + x.expr(depth-1) + ")"
	}
	return x.one("a", "1")
}

func (x guardTexts) oneCase(depth int) string {
	text := "case a " + x.one("", "if "+x.expr(depth-1)+" ", "if "+x.expr(depth-1)+" ") + "=> "
	for i := range x.r.Intn(3) {
		if i > 0 {
			text += " ; "
		}
		text += x.one(x.expr(depth-1), x.expr(depth-1), x.expr(depth-1), x.expr(depth-1), x.definition(depth-1))
	}
	return text
}

func (x guardTexts) definition(depth int) string {
	kind := x.one("A", "(A)", "A => A", "(A, B) => A", "() => A => (A)")
	return x.one("val b: "+kind, "def f: "+kind+" = "+x.expr(depth), "type B = "+kind, "given "+kind+" = "+x.expr(depth))
}

// inParentheses returns the text of a match, with its first guard in
// parentheses.
func inParentheses(text string, n syntax.Node) (string, bool) {
	if n.Kind != syntax.XMatch || n.Kids[1].Kids[1].Kind == syntax.SNone {
		return "", false
	}
	guard, body := n.Kids[1].Kids[1].At, n.Kids[1].Kids[2].At
	arrow := strings.LastIndex(text[:body], "=>")
	return text[:guard] + "(" + text[guard:arrow] + ") " + text[arrow:], true
}

// P3.1, P3.2, P3.4: cases with guards are read if the grammar describes them
// in any way, and their faults are where it ends; parentheses around the guard
// that was found change nothing.
func TestGuards(t *testing.T) {
	x := guardTexts{rand.New(rand.NewSource(7))}
	g := readGrammar(rules)
	right, lambdas := 0, 0
	for range 5000 {
		depth := 1 + x.r.Intn(7)
		text := x.one("a match { "+x.oneCase(depth)+" }", "a match { "+x.oneCase(depth)+" }", x.expr(depth))
		words := strings.Fields(text)
		if len(words) > 60 {
			continue
		}
		if x.r.Intn(4) == 0 {
			i := x.r.Intn(len(words))
			text = strings.Join(append(words[:i:i], words[i+1:]...), " ")
		}
		checkSyntax(t, g, "expr", text)
		n, f := parse["expr"](text)
		if f.Code != api.OK {
			continue
		}
		right++
		if other, ok := inParentheses(text, n); ok {
			sameTree(t, "expr", text, other)
			if syntax.Count(n.Kids[1].Kids[1], syntax.XLambda) > 0 {
				lambdas++
			}
		}
	}
	if right < 1500 || lambdas < 200 {
		t.Errorf("only %d, and %d guards with lambdas", right, lambdas)
	}
}

// P3.1: cases in guards and bodies of others are read in a time that does not
// grow with each of them by a factor.
func TestNestedGuards(t *testing.T) {
	nested := func(head, inner, tail string, times int) string {
		return strings.Repeat(head, times) + inner + strings.Repeat(tail, times)
	}
	for _, c := range []struct{ text, fault string }{
		{nested("a match { case b if c => { ", "d", " } => e }", 14), ""},
		{nested("a match { case b if c => { ", "d e", " } => f }", 20), "e }"},
		{nested("a match { case b if c => d => ", "e f", " }", 24), "f }"},
		{nested("a match { case b if a match { case c if d => e => ", "f g", " } => h => i }", 16), "g }"},
		{nested("a match { case b if (", "c d", ") => e }", 20), "d )"},
		{nested("try a catch case b if (", "c", ") => 1", 20), ""},
		{nested("try a catch case b if ", "c", " => 1", 30) + " d", "d"},
		{nested("try a catch case b if ", "c", " => d", 24) + " e", "e"},
		{nested("try a catch case b if c => d => ", "e f", "", 16), "f"},
		{"a match { " + nested("case b if c => 1 => d ", "case e if f", "", 150) + " }", "}"},
		{"{ " + nested("try a catch case b if c => 1 => d finally e; ", "f g", "", 150) + " }", "g }"},
		{"{ " + nested("try a catch case b if c => d => e finally f; ", "g h", "", 150) + " }", "h }"},
		{"{ " + nested("{ if a then try b catch case c if if d then e => f else g => h }; ", "i j", "", 100) + " }", "j }"},
		{"{ " + nested("a match { case b => if c then try d catch case e if if f then g => h else i => j }; ", "k l", "", 100) + " }", "l }"},
		{"a match { case b if for " + nested("c <- d => e; ", "f <- g yield h => i j", "", 150) + " }", "j }"},
		{"a match { case b if " + nested("c => ", "d e", "", 60) + " }", "e }"},
		{"a match { case b if " + nested("if c then d => e else ", "f => 1 g", "", 60) + " }", "g }"},
	} {
		c.text = strings.ReplaceAll(c.text, "d) =>", "d ) =>")
		want := fault(0, api.OK)
		if c.fault != "" {
			want = fault(strings.LastIndex(c.text, c.fault), api.ErrSyntax)
		}
		if _, f := parse["expr"](c.text); f != want {
			t.Errorf("%.60q of %d: %v, want %v", c.text, len(c.text), f, want)
		}
	}
}

// P3.1: what is nested too deeply in the only way to read a guard is the fault,
// even if other ways go on further; it is none if there is another way.
func TestDeepGuards(t *testing.T) {
	lambdas := func(param string, times int) string {
		return "a match { case b if " + strings.Repeat(param+" => ", times)
	}
	// In a guard if c then d => .. else .., the body of d is nested in one more
	// expression than it is in the body of a case with the guard if c then d.
	inIf := func(head string, parens int) string {
		deep := strings.Repeat("(", parens) + "^h" + strings.Repeat(")", parens)
		return strings.Repeat("k => ", 36) + head + " case b if if c then d => e match { case f if " + deep + " => g }"
	}
	for _, c := range []struct {
		text string // with ^ in front of the token of the fault
		code api.Errno
	}{
		{lambdas("c", 60) + "d }", api.OK},
		{lambdas("_", 60) + "d ^}", api.ErrSyntax},
		{lambdas("_", 100) + "^_ => d }", api.ErrDepth},
		{lambdas("c", 100) + strings.Repeat("^c => ", 20) + "1 => d }", api.ErrDepth},
		{lambdas("c", 100) + strings.Repeat("^c => ", 150) + "d }", api.ErrDepth},
		{inIf("a match {", 60) + " else i => j }", api.OK},
		{inIf("a match {", 61) + " else i => j }", api.ErrDepth},
		{"k => " + strings.Replace(inIf("a match {", 61), "(^h", "^(h", 1) + " else i => j }", api.ErrDepth},
		{inIf("if a then try a catch", 60) + " else i", api.OK},
		{strings.Replace(inIf("if a then try a catch", 60), "^", "", 1) + " else i ^j", api.ErrSyntax},
	} {
		want := fault(0, c.code)
		if c.code != api.OK {
			want.At = strings.Index(c.text, "^")
		}
		if _, f := parse["expr"](strings.ReplaceAll(c.text, "^", "")); f != want {
			t.Errorf("%.60q of %d: %v, want %v", c.text, len(c.text), f, want)
		}
	}
}
