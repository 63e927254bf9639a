package printer_test

import (
	"strings"
	"testing"

	"newel/api"
	"newel/parser"
	"newel/printer"
	"newel/syntax"
)

func node(kind int, text string, kids ...syntax.Node) syntax.Node {
	return syntax.Node{Kind: kind, Text: text, Kids: kids}
}

// longString is a string whose text is longer by one byte than a text may be.
func longString() syntax.Node {
	return node(syntax.XString, strings.Repeat("a", api.MaxText-1))
}

// nested returns a tree that is nested so deep, of a kind around itself.
func nested(kind, deep int) syntax.Node {
	n := node(syntax.XName, "a")
	for range deep - 1 {
		n = node(kind, "", n)
	}
	return n
}

// P4.1, P4.3: the errors in their order.
func TestErrors(t *testing.T) {
	name := node(syntax.XName, "a")
	super := node(syntax.XSuper, "")
	// each of these trees has the errors behind its own one, too, where that
	// is possible
	for _, c := range []struct {
		what  string
		n     syntax.Node
		style int
		want  api.Errno
	}{
		{"no style", node(-1, ""), -1, api.ErrRange},
		{"no style", node(-1, ""), printer.Styles, api.ErrRange},
		{"no style", name, 1 << 40, api.ErrRange},
		{"no kind", node(syntax.Kinds, ""), printer.Braces, api.ErrKind},
		{"no kind below", node(syntax.SMods, "", node(-1, "")), printer.Braces, api.ErrForm},
		{"no kind below", node(syntax.SNames, "", node(-1, "")), printer.Braces, api.ErrForm},
		{"too deep", nested(syntax.SNone, api.MaxNest+1), printer.Indented, api.ErrDepth},
		{"no name", node(syntax.SParams, "", node(syntax.SParam, "+")), printer.Indented, api.ErrName},
		{"a number", syntax.Node{Kind: syntax.SMods, Num: 1 << 20}, printer.Braces, api.ErrRange},
		{"a text", node(syntax.SNames, "a"), printer.Braces, api.ErrInvalid},
		{"no name", node(syntax.SEnumCase, "+", super), printer.Braces, api.ErrName},
		{"no name", node(syntax.XInfix, "a+", longString(), super), printer.Braces, api.ErrName},
		{"no root", node(syntax.SNone, ""), printer.Braces, api.ErrKind},
		{"no root", node(syntax.SGuard, "", node(syntax.XInfix, "+", super, longString())), printer.Indented, api.ErrKind},
		{"no root", node(syntax.XNamed, "if", super), printer.Indented, api.ErrKind},
		{"no root", node(syntax.TCase, "", node(syntax.TName, "if"), node(syntax.TName, "A")), printer.Indented, api.ErrKind},
		{"no text", node(syntax.XInfix, "+", longString(), super), printer.Braces, api.ErrForm},
		{"no text", node(syntax.XInfix, "+", super, longString()), printer.Indented, api.ErrForm},
		{"no text", node(syntax.XInfix, "+", longString(), longString(), name), printer.Indented, api.ErrForm},
		{"no text", node(syntax.XBlock, "", longString(), node(syntax.XName, "if")), printer.Braces, api.ErrForm},
		{"too long", longString(), printer.Braces, api.ErrLimit},
		{"too long", node(syntax.XBlock, "", name, node(syntax.XInterp, "s", longString())), printer.Indented, api.ErrLimit},
		{"too long", node(syntax.XSelect, "b", node(syntax.XString, strings.Repeat("\xff", 20000))), printer.Indented, api.ErrLimit},
	} {
		text, code := printer.Print(c.n, c.style)
		if text != "" || code != c.want {
			t.Errorf("%s: %q, %v, want %v", c.what, text, code, c.want)
		}
		if c.want == api.ErrRange && c.what == "no style" {
			continue
		}
		if text, code := printer.Line(c.n); text != "" || code != c.want {
			t.Errorf("Line: %s: %q, %v, want %v", c.what, text, code, c.want)
		}
	}
}

// P4.1: the root is none of these kinds, though the tree is right.
func TestRoots(t *testing.T) {
	for _, form := range []string{
		"(SNone)", `(SImport "a")`, `(SVal "a" (SMods) (SNone) (SNone))`, "(SMods)", "(SNames)", `(STParam "A" (SNone) (SNone))`, "(SLists)", "(SParams)",
		`(SParam "a" (SMods) (TName "A") (SNone))`, "(SParents)", `(SParent (TName "A"))`, "(SBody)", `(TCase (TName "A") (TName "B"))`, `(XNamed "a" (XInt 1))`,
		"(SGenerator (PWild) (XInt 1))", "(SBinding (PWild) (XInt 1))", "(SGuard (XTrue))", "(SCase (PWild) (SNone) (XUnit))", "(SCases)", `(SLambdaParam "_" (SNone))`,
		`(SEnumCase "A" (SNames) (SLists) (SParents))`, `(SType "A" (SMods) (SNames) (SNone) (SNone) (SNone))`, `(SGiven (SMods) (SNames) (SLists) (TName "A") (XUnit))`,
	} {
		n := tree(t, form)
		for style := range printer.Styles {
			if text, code := printer.Print(n, style); text != "" || code != api.ErrKind {
				t.Errorf("%s: %q, %v", form, text, code)
			}
		}
		if text, code := printer.Line(n); text != "" || code != api.ErrKind {
			t.Errorf("Line of %s: %q, %v", form, text, code)
		}
	}
}

// withLongString returns a tree with a string in it whose text is too long.
func withLongString(n syntax.Node) syntax.Node {
	switch kindOf(n) {
	case "type":
		return node(syntax.XTyped, "", longString(), n)
	case "pattern":
		return node(syntax.XMatch, "", longString(), node(syntax.SCase, "", n, node(syntax.SNone, ""), node(syntax.XUnit, "")))
	case "unit":
		long := node(syntax.SVal, "x", node(syntax.SMods, ""), node(syntax.SNone, ""), longString())
		return node(syntax.SUnit, "", append([]syntax.Node{long}, n.Kids...)...)
	}
	return node(syntax.XBlock, "", longString(), n)
}

// P4.1: right trees that have no text.
func TestFormless(t *testing.T) {
	const none = " (SMods) (SNames) (SLists)"
	for _, form := range []string{
		"(XSuper)", `(XSuper "A")`, `(XApply (XSuper))`, `(XInfix "+" (XSuper) (XInt 1))`, "(XBlock (XSuper))", "(XTypes (XSuper) (TName \"A\"))", `(XSelect "a" (XSuper "if"))`,
		"(TWild (SNone) (SNone))", `(TAnd (TName "A") (TWild (SNone) (SNone)))`, `(TApply (TWild (SNone) (SNone)) (TName "A"))`, `(XTypes (XName "a") (TWild (SNone) (SNone)))`,
		`(TApply (TName "A") (TFunction (TWild (SNone) (SNone))))`, "(PTyped \"a\" (TWild (SNone) (SNone)))",
		`(XName "if")`, `(XName "+")`, `(XName "this")`, `(TName "type")`, `(TSelect "match" (XThis))`, `(TSelect "A" (XName "+"))`, `(TSelect "A" (XSelect "+" (XThis)))`,
		`(TSingle (XSelect "a" (XSelect "*" (XName "a"))))`, `(TSingle (XName "if"))`, `(XSelect "type" (XThis))`, `(XSelect "=>" (XThis))`, `(XSelect "//" (XThis))`, `(XSelect "+/*" (XThis))`,
		`(XInfix "a" (XInt 1) (XInt 2))`, `(XInfix "+=" (XInt 1) (XInt 2))`, `(XInfix "=" (XInt 1) (XInt 2))`, `(XInfix "<-" (XInt 1) (XInt 2))`, `(XInfix "*/*" (XInt 1) (XInt 2))`,
		`(XInfix ":" (XInt 1) (XInt 2))`, `(XInfix "<:" (XInt 1) (XInt 2))`, `(XInfix ">:" (XInt 1) (XInt 2))`, `(XAssign "//=" (XName "a") (XInt 2))`,
		`(XInterp "if" (XString))`, `(XApply (XName "a") (XNamed "val" (XInt 1)))`, `(XLambda (SLambdaParam "do" (SNone)) (XInt 1))`,
		`(PStable "a")`, `(PStable "_a")`, `(PStable "A.if")`, `(PStable "if")`, `(PApply "a.this")`, `(PBind "case" (PWild))`, `(PTyped "if" (TName "A"))`,
		"(XQuote (XInt 1))", "(XSplice (XName \"a\"))", "(TLambda (SNames) (TName \"A\"))", `(XNew (SParents (SParent (TName "A") (XInt 1))) (SNone))`,
		`(XBlock (SImport "*"))`, `(XBlock (SImport "a.if.b"))`, `(XBlock (SImport "a.if.*"))`, `(XBlock (SVal "new" (SMods) (SNone) (SNone)))`,
		`(XBlock (SClass "+"` + none + ` (SParents) (SNone)))`, `(XBlock (SClass "if"` + none + ` (SParents) (SNone)))`, `(XBlock (SClass "A" 5` + none + ` (SParents) (SNone)))`,
		`(XBlock (SClass "A" 2 (SMods) (SNames (STParam "B" (SNone) (SNone))) (SLists) (SParents) (SNone)))`, `(XBlock (SClass "A" 4 (SMods) (SNames) (SLists (SParams)) (SParents) (SNone)))`,
		`(XBlock (SDef "f" 1` + none + ` (SNone) (SNone)))`, `(XBlock (SDef "="` + none + ` (SNone) (SNone)))`, `(XBlock (SDef "/*"` + none + ` (SNone) (SNone)))`, `(XBlock (SDef "if"` + none + ` (SNone) (SNone)))`,
		`(XBlock (SGiven (SMods) (SNames (STParam "B" (SNone) (SNone))) (SLists) (TName "A") (XInt 1)))`, `(XBlock (SGiven (SMods) (SNames) (SLists (SParams)) (TName "A") (XInt 1)))`,
		`(XBlock (SEnumCase "A" (SNames) (SLists) (SParents)))`, `(SUnit (SEnumCase "A" (SNames) (SLists) (SParents)))`, `(SUnit (SClass "A"` + none + ` (SParents) (SBody (SEnumCase "A" (SNames) (SLists) (SParents)))))`,
		`(SUnit (SClass "A" 5` + none + ` (SParents) (SBody (XBlock (SEnumCase "A" (SNames) (SLists) (SParents))))))`,
		`(XNew (SParents (SParent (TName "A"))) (SBody (SEnumCase "A" (SNames) (SLists) (SParents))))`, `(XBlock (SType "if" (SMods) (SNames) (SNone) (SNone) (SNone)))`,
	} {
		n := tree(t, form)
		for style := range printer.Styles {
			if text, code := printer.Print(n, style); text != "" || code != api.ErrForm {
				t.Errorf("%s: %q, %v", form, text, code)
			}
		}
		// a text that would be too long is none, too
		if _, code := printer.Print(withLongString(n), printer.Braces); code != api.ErrForm {
			t.Errorf("%s, too long: %v", form, code)
		}
		want := api.ErrForm
		if n.Kind == syntax.SUnit {
			want = api.ErrKind
		}
		if text, code := printer.Line(n); text != "" || code != want {
			t.Errorf("Line of %s: %q, %v", form, text, code)
		}
	}
}

// P4.1: trees that are nested so deep that a text is, too, or is not.
func TestNesting(t *testing.T) {
	for _, c := range []struct {
		n    syntax.Node
		want api.Errno
	}{
		{nested(syntax.XThrow, api.MaxNest), api.OK},
		{nested(syntax.XBlock, 51), api.OK},
		{nested(syntax.XBlock, 52), api.ErrForm}, // more than 100 statements and expressions
	} {
		for style := range printer.Styles {
			if _, code := printer.Print(c.n, style); code != c.want {
				t.Errorf("%v, want %v", code, c.want)
			}
		}
	}
}

// P4.1: the longest texts.
func TestLongTexts(t *testing.T) {
	for _, c := range []struct {
		n    syntax.Node
		want api.Errno
	}{
		{node(syntax.XString, strings.Repeat("a", api.MaxText-2)), api.OK},
		{node(syntax.XString, strings.Repeat("a", api.MaxText-1)), api.ErrLimit},
		{node(syntax.XString, strings.Repeat("\n", api.MaxText/2-1)), api.OK},
		{node(syntax.XString, strings.Repeat("\n", api.MaxText/2)), api.ErrLimit},
		{node(syntax.XSelect, "b", node(syntax.XString, strings.Repeat("a", api.MaxText-4))), api.OK},
		{node(syntax.XSelect, "bc", node(syntax.XString, strings.Repeat("a", api.MaxText-4))), api.ErrLimit},
		{node(syntax.XInterp, "s", node(syntax.XString, strings.Repeat("a", api.MaxText-3))), api.OK},
		{node(syntax.XInterp, "s", node(syntax.XString, strings.Repeat("a", api.MaxText-2))), api.ErrLimit},
		{node(syntax.XInterp, "st", node(syntax.XString, strings.Repeat("a", api.MaxText-3))), api.ErrLimit},
	} {
		for style := range printer.Styles {
			text, code := printer.Print(c.n, style)
			if code != c.want || code == api.OK && len(text) != api.MaxText {
				t.Errorf("%d bytes, %v, want %v", len(text), code, c.want)
			}
		}
		line, code := printer.Line(c.n)
		if code != c.want || code == api.OK && len(line) != api.MaxText {
			t.Errorf("Line: %d bytes, %v, want %v", len(line), code, c.want)
		}
	}
}

// P4.2: the faults of Format.
func TestFormatFaults(t *testing.T) {
	long := "def f=g(" + strings.Repeat("abcdefgh,", 190) + "a)" // 9 bytes, with a blank 10
	for _, c := range []struct {
		text  string
		style int
		want  api.Fault
	}{
		{"val", -1, api.Fault{At: 0, Code: api.ErrRange}},
		{"val", printer.Styles, api.Fault{At: 0, Code: api.ErrRange}},
		{"", printer.Styles, api.Fault{At: 0, Code: api.ErrRange}},
		{"val x\nval", printer.Braces, api.Fault{At: 7, Code: api.ErrSyntax}},
		{"val `", printer.Indented, api.Fault{At: 4, Code: api.ErrSyntax}},
		{"x", printer.Indented, api.Fault{At: 0, Code: api.ErrSyntax}},
		{"val x = 2147483648", printer.Braces, api.Fault{At: 8, Code: api.ErrRange}},
		{"def f:\n  a\n b", printer.Braces, api.Fault{At: 12, Code: api.ErrOrder}},
		{"val x = f(a = b, c)", printer.Braces, api.Fault{At: 8, Code: api.ErrForm}},
		{"val x = " + strings.Repeat("(", 64) + "a" + strings.Repeat(")", 64), printer.Braces, api.Fault{At: 66, Code: api.ErrDepth}},
		{strings.Repeat(long+";", 37), printer.Indented, api.Fault{At: 0, Code: api.ErrLimit}},
		{strings.Repeat(long+";", 37) + "val", printer.Indented, api.Fault{At: 37*(len(long)+1) + 1, Code: api.ErrSyntax}},
	} {
		text, f := printer.Format(c.text, c.style)
		if text != "" || f != c.want {
			t.Errorf("Format(%.40q): %.40q, %v, want %v", c.text, text, f, c.want)
		}
	}
}

// R4: what Print is given does not change, not even behind the end of a list.
func TestArguments(t *testing.T) {
	n, _ := parser.Parse(program)
	before := form(n)
	for style := range printer.Styles {
		printer.Print(n, style)
	}
	if form(n) != before {
		t.Error("the tree has changed")
	}
	kids := []syntax.Node{node(syntax.XName, "a"), node(syntax.XName, "b"), node(syntax.XName, "c")}
	if text, code := printer.Line(node(syntax.XApply, "", kids[:2]...)); text != "a(b)" || code != api.OK || kids[2].Text != "c" {
		t.Errorf("%q, %v, %v", text, code, kids)
	}
}
