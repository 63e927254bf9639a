package syntax_test

import (
	"math/rand"
	"strings"
	"testing"

	"newel/api"
	"newel/syntax"
)

var (
	long64 = strings.Repeat("a", 64)
	ops64  = strings.Repeat("+", 64)
)

// unchanging are kinds whose nodes have neither Text nor Num nor Kids.
const unchanging = "SNone XTrue XFalse XNull XUnit XThis PWild"

// right has the forms of right trees of each kind.
var right = []string{
	"(SNone)", "(XTrue)", "(XFalse)", "(XNull)", "(XUnit)", "(XThis)", "(PWild)",
	"(SUnit)",
	`(SUnit (SImport "a") (SVal "a" (SMods) (SNone) (SNone)) (SEnumCase "A" (SNames) (SLists) (SParents)))`,
	`(SImport "a")`, `(SImport "a.b._c")`, `(SImport "a.*")`, `(SImport "*")`, `(SImport "a.b.c.d.e.f.g.h")`, `(SImport "a.b.c.d.e.f.g.*")`, `(SImport "` + long64 + "." + long64 + `")`,
	`(SClass "A" (SMods) (SNames) (SLists) (SParents) (SNone))`,
	`(SClass "A" 5 (SMods) (SNames) (SLists) (SParents) (SBody))`,
	`(SClass "+" 1 (SMods) (SNames) (SLists) (SParents) (SNone))`,
	`(SDef "f" (SMods) (SNames) (SLists) (SNone) (SNone))`,
	`(SDef "::" 1 (SMods) (SNames) (SLists) (TName "A") (XInt 1))`,
	`(SVal "a" (SMods) (SNone) (XInt 2))`, `(SVal "a" 2 (SMods) (TName "A") (SNone))`,
	`(SType "A" (SMods) (SNames) (SNone) (SNone) (SNone))`,
	`(SType "A" (SMods) (SNames) (TName "A") (TName "B") (SNone))`,
	`(SType "A" (SMods) (SNames) (SNone) (SNone) (TName "B"))`,
	`(SGiven (SMods) (SNames) (SLists) (TName "A") (XUnit))`, `(SGiven "g" (SMods) (SNames) (SLists) (TWild (SNone) (SNone)) (XUnit))`,
	`(SExtension (SNames) (SParam "a" (SMods) (TName "A") (SNone)) (SDef "f" (SMods) (SNames) (SLists) (SNone) (SNone)))`,
	`(SEnumCase "A" (SNames) (SLists) (SParents))`,
	"(SMods)", "(SMods 1)", "(SMods 2)", "(SMods 4)", "(SMods 8)", "(SMods 16)", "(SMods 512)", "(SMods 4096)", "(SMods 4639)",
	"(SNames)", `(SNames (STParam "A" (SNone) (SNone)))`,
	`(STParam "A" (SNone) (SNone))`, `(STParam "A" 1 (TName "A") (TName "B") (SNone) (SNone))`, `(STParam "A" -1 (SNone) (SNone) (SNone))`,
	"(SLists)", "(SLists (SParams) (SParams 1) (SParams) (SParams))",
	"(SParams)", `(SParams 1 (SParam "a" (SMods) (TName "A") (SNone)))`,
	`(SParam "a" (SMods) (TName "A") (SNone))`, `(SParam "a" 1 (SMods) (TName "A") (XInt 1))`, `(SParam "a" 10 (SMods) (TName "A") (SNone))`,
	"(SParents)", `(SParents (SParent (TName "A")) (SParent 1 (TName "B")))`,
	`(SParent (TName "A"))`, `(SParent 1 (TName "A"))`, `(SParent 1 (TName "A") (XInt 1) (XInt 2))`,
	"(SBody)", `(SBody (XInt 1) (SVal "a" (SMods) (SNone) (SNone)) (XName "a"))`,
	`(TName "A")`, `(TName "` + long64 + `")`,
	`(TSelect "A" (XName "a"))`, `(TSelect "A" (XThis))`, `(TSelect "A" (XSelect "b" (XSelect "c" (XThis))))`,
	`(TApply (TName "A") (TName "B"))`, `(TApply (TName "A") (TWild (SNone) (TName "B")) (TName "C"))`,
	`(TFunction (TName "A"))`, `(TFunction (TName "A") (TName "B") (TName "C"))`,
	`(TAnd (TName "A") (TName "B"))`, `(TOr (TName "A") (TOr (TName "A") (TName "B")))`,
	`(TSingle (XName "a"))`, `(TSingle (XSelect "b" (XName "a")))`,
	"(TWild (SNone) (SNone))", `(TWild (TName "A") (TName "B"))`,
	`(TLambda (SNames) (TName "A"))`,
	`(TMatch (TName "A") (TCase (TName "B") (TName "C")) (TCase (TName "B") (TName "C")))`, `(TCase (TName "B") (TName "C"))`,
	`(XName "a")`, `(XName "_1")`, `(XName "Az_09")`, `(XName "+-*/%<>=!&|^~:?")`, `(XName "` + ops64 + `")`, `(XName "` + long64 + `")`, `(XName "def")`,
	`(XSelect "a" (XInt 1))`, `(XSelect "+" (XSuper))`,
	`(XApply (XName "f"))`, `(XApply 1 (XName "f") (XInt 1) (XNamed "a" (XInt 2)) (XNamed "b" (XInt 2)))`, `(XNamed "a" (XInt 1))`,
	`(XTypes (XName "f") (TName "A"))`, `(XTypes (XName "f") (TName "A") (TName "B"))`,
	`(XInfix "+" (XInt 1) (XName "x"))`, `(XInfix "max" (XInt 1) (XInt 2))`,
	`(XPrefix "-" (XInt 1))`, `(XPrefix "!" (XTrue))`, `(XPrefix "~" (XInt 1))`, `(XPrefix "+" (XInt 1))`,
	`(XAssign "=" (XName "a") (XInt 1))`, `(XAssign "+=" (XInt 1) (XInt 1))`, `(XAssign "<<=" (XName "a") (XInt 1))`, `(XAssign "` + ops64[1:] + `=" (XName "a") (XInt 1))`,
	"(XInt)", "(XInt 2147483647)", "(XLong)", "(XLong 9223372036854775807)", "(XChar)", "(XChar 255)", "(XString)", `(XString "a b")`,
	"(XSuper)", `(XSuper "A")`,
	`(XInterp "s" (XString))`, `(XInterp "s" (XString "a") (XInt 1) (XString) (XString "b") (XString "c"))`,
	"(XIf (XTrue) (XInt 1) (SNone))", "(XIf (XTrue) (XInt 1) (XInt 2))", "(XWhile (XTrue) (XUnit))",
	`(XFor (SGenerator (PWild) (XName "a")) (XUnit))`, `(XFor 1 (SGenerator (PWild) (XName "a")) (SGuard (XTrue)) (SBinding (PWild) (XUnit)) (SGenerator (PWild) (XUnit)) (XUnit))`,
	"(SGenerator (PWild) (XUnit))", "(SBinding (PWild) (XUnit))", "(SGuard (XTrue))",
	"(XMatch (XInt 1) (SCase (PWild) (SNone) (XUnit)))", "(SCase (PWild) (XTrue) (XUnit))",
	"(XTry (XUnit) (SCases) (SNone))", "(XTry (XUnit) (SCases (SCase (PWild) (SNone) (XUnit))) (XUnit))", "(SCases)",
	"(XThrow (XNull))", "(XReturn (SNone))", "(XReturn (XInt 1))",
	"(XLambda (XUnit))", `(XLambda (SLambdaParam "a" (SNone)) (SLambdaParam "_" (TName "A")) (XUnit))`, `(SLambdaParam "_" (SNone))`,
	"(XBlock)", `(XBlock (SImport "a") (XUnit))`,
	`(XNew (SParents (SParent (TName "A"))) (SNone))`, `(XNew (SParents (SParent (TName "A"))) (SBody))`,
	`(XTyped (XInt 1) (TName "A"))`, "(XQuote (XInt 1))", "(XSplice (XInt 1))",
	`(PBind "a" (PWild))`, `(PBind "a" (PAlt (PBind "b" (PWild)) (PWild)))`,
	`(PTyped "_" (TName "A"))`, `(PTyped "a" (TName "A"))`,
	"(PLiteral (XInt 1))", "(PLiteral (XLong 1))", "(PLiteral (XChar 1))", "(PLiteral (XString))", "(PLiteral (XTrue))", "(PLiteral (XFalse))", "(PLiteral (XNull))", "(PLiteral (XUnit))",
	`(PLiteral (XPrefix "-" (XInt 1)))`, `(PLiteral (XPrefix "-" (XLong 1)))`,
	`(PStable "a")`, `(PStable "a.b.c.d.e.f.g.h")`, `(PApply "a.b")`, `(PApply "A" (PWild) (PBind "a" (PWild)))`,
	"(PAlt (PWild) (PWild))", `(PAlt (PWild) (PBind "a" (PAlt (PWild) (PWild))) (PWild))`,
}

// P2.1: right trees of each kind.
func TestRight(t *testing.T) {
	seen := map[string]bool{}
	for _, form := range right {
		if f := syntax.Check(tree(form)); f != (api.Fault{}) {
			t.Errorf("Check(%s) = %v", form, f)
		}
		seen[syntax.Name(tree(form).Kind)] = true
	}
	for _, name := range names {
		if !seen[name] {
			t.Errorf("no tree of the kind %s", name)
		}
	}
}

// P2.1: names and paths.
func TestWrongNames(t *testing.T) {
	forms := map[string][]string{
		// Texts that are neither names of letters nor of operator bytes.
		"name":    {"", "_", "1", "1a", "a b", "a+", "+a", "a.b", "é", "a'", ".", "*.", "\x00", "+(", "@", long64 + "a", ops64 + "+"},
		"letters": {"+", "*", "="},
		"path":    {".a", "a.", "a..b", "a._", "a.1", "+", "a.+", "a.b.c.d.e.f.g.h.i", "a." + long64 + "a"},
		"import":  {"*.a", "a*", "a.**", "a.*.b", "**", ".*", "a.b.c.d.e.f.g.h.*"},
	}
	check := func(before, after string, lists ...string) {
		for _, list := range lists {
			for _, text := range forms[list] {
				n := tree(before + `"x"` + after)
				n.Text = text
				if f := syntax.Check(n); f != fault(0, api.ErrName) {
					t.Errorf("%s%q%s: %v", before, text, after, f)
				}
			}
		}
	}
	check("(XName ", ")", "name")
	check("(XSelect ", " (XThis))", "name")
	check("(XInfix ", " (XThis) (XThis))", "name")
	check("(SClass ", " (SMods) (SNames) (SLists) (SParents) (SNone))", "name")
	check("(SDef ", " (SMods) (SNames) (SLists) (SNone) (SNone))", "name")
	for _, c := range [][2]string{
		{"(SVal ", " (SMods) (SNone) (SNone))"}, {"(SType ", " (SMods) (SNames) (SNone) (SNone) (SNone))"},
		{"(SEnumCase ", " (SNames) (SLists) (SParents))"}, {"(STParam ", " (SNone) (SNone))"},
		{"(SParam ", " (SMods) (TName \"A\") (SNone))"}, {"(TName ", ")"}, {"(TSelect ", " (XThis))"},
		{"(XNamed ", " (XThis))"}, {"(XInterp ", " (XString))"}, {"(PBind ", " (PWild))"},
	} {
		check(c[0], c[1], "name", "letters")
	}
	forms["name"] = forms["name"][1:] // these may be empty
	check("(SGiven ", " (SMods) (SNames) (SLists) (TName \"A\") (XUnit))", "name", "letters")
	check("(XSuper ", ")", "name", "letters")
	forms["name"][0] = "__ " // these may be _
	check("(SLambdaParam ", " (SNone))", "name", "letters")
	check("(PTyped ", ` (TName "A"))`, "name", "letters")
	forms["name"] = []string{"", "_", "1", "a b", long64 + "a"} // these may have points
	check("(PStable ", ")", "name", "path", "import")
	check("(PApply ", ")", "name", "path", "import")
	check("(SImport ", ")", "name", "path", "import")
}

func TestWrongNums(t *testing.T) {
	for form, nums := range map[string][]int64{
		`(SClass "A" (SMods) (SNames) (SLists) (SParents) (SNone))`: {-1, 6},
		`(SDef "f" (SMods) (SNames) (SLists) (SNone) (SNone))`:      {-1, 2},
		`(SVal "a" (SMods) (SNone) (SNone))`:                        {-1, 3},
		"(SMods)":                                                   {-1, 32, 64, 128, 256, 1024, 2048, 8192, 16384, 32768, 1 << 40},
		`(STParam "A" (SNone) (SNone))`:                             {-2, 2},
		"(SParams)":                                                 {-1, 2},
		`(SParam "a" (SMods) (TName "A") (SNone))`:                  {-1, 3, 7, 11, 12, 13, 16},
		`(SParent (TName "A"))`:                                     {-1, 2},
		`(XApply (XThis))`:                                          {-1, 2},
		`(XFor (SGenerator (PWild) (XUnit)) (XUnit))`:               {-1, 2},
		"(XInt)":  {-1, 1 << 31, 1 << 62},
		"(XLong)": {-1, -1 << 63},
		"(XChar)": {-1, 256},
	} {
		for _, num := range nums {
			n := tree(form)
			n.Num = num
			if f := syntax.Check(n); f != fault(0, api.ErrRange) {
				t.Errorf("%s %d: %v", form, num, f)
			}
		}
	}
}

// P2.1: what must be empty, and Texts of which a few are permitted.
func TestInvalid(t *testing.T) {
	hasText := " SImport SClass SDef SVal SType SGiven SEnumCase STParam SParam TName TSelect XName XSelect XNamed XInfix XPrefix XAssign XString XSuper XInterp SLambdaParam PBind PTyped PStable PApply "
	hasNum := " SClass SDef SVal SMods STParam SParams SParam SParent XApply XFor XInt XLong XChar "
	for _, form := range right {
		n := tree(form)
		name := " " + names[n.Kind] + " "
		n.Text = "a"
		if f := syntax.Check(n); !strings.Contains(hasText, name) && f != fault(0, api.ErrInvalid) {
			t.Errorf("%s with a Text: %v", form, f)
		}
		n = tree(form)
		n.Num = 1
		if f := syntax.Check(n); !strings.Contains(hasNum, name) && f != fault(0, api.ErrInvalid) {
			t.Errorf("%s with a Num: %v", form, f)
		}
	}
	for _, text := range []string{"", "*", "--", "a", "- "} {
		n := tree(`(XPrefix "-" (XInt 1))`)
		n.Text = text
		if f := syntax.Check(n); f != fault(0, api.ErrInvalid) {
			t.Errorf("XPrefix %q: %v", text, f)
		}
	}
	for _, text := range []string{"", "==", "<=", ">=", "!=", "===", "+", "a=", "a", "+ =", ops64 + "="} {
		n := tree(`(XAssign "=" (XThis) (XInt 1))`)
		n.Text = text
		if f := syntax.Check(n); f != fault(0, api.ErrInvalid) {
			t.Errorf("XAssign %q: %v", text, f)
		}
	}
}

// P2.1: Kids of a wrong number, of a wrong kind, or that break a rule.
func TestWrongForms(t *testing.T) {
	for _, form := range []string{
		`(SVal "a" (SMods) (SNone))`, `(SVal "a")`, `(SVal "a" (SMods) (SNone) (SNone) (SNone))`,
		"(SNone (SNone))", "(XInt 1 (XInt 1))", `(SImport "a" (SNone))`, `(TName "A" (SNone))`, "(SMods (SNone))", "(PWild (PWild))",
		"(SUnit (XInt 1))", "(SUnit (SNone))", "(SUnit (SParam \"a\" (SMods) (TName \"A\") (SNone)))", "(SUnit (SUnit))",
		`(SClass "A" (SMods) (SNames) (SLists) (SParents) (XBlock))`, `(SClass "A" (SNames) (SMods) (SLists) (SParents) (SNone))`, `(SClass "A" (SMods) (SNames) (SLists) (SParents))`,
		`(SDef "f" (SMods) (SNames) (SLists) (XUnit) (SNone))`, `(SDef "f" (SMods) (SNames) (SLists) (SNone) (TName "A"))`,
		`(SType "A" (SMods) (SNames) (TName "A") (SNone) (TName "B"))`, `(SType "A" (SMods) (SNames) (SNone) (TName "A") (TName "B"))`, `(SType "A" (SMods) (SNames) (SNone) (SNone))`,
		`(SGiven (SMods) (SNames) (SLists) (SNone) (XUnit))`, `(SGiven (SMods) (SNames) (SLists) (TName "A") (SNone))`,
		`(SExtension (SNames) (SParam "a" (SMods) (TName "A") (SNone)))`, `(SExtension (SNames) (SDef "f" (SMods) (SNames) (SLists) (SNone) (SNone)))`,
		`(SExtension (SNames) (SParam "a" (SMods) (TName "A") (SNone)) (SDef "f" 1 (SMods) (SNames) (SLists) (SNone) (SNone)))`,
		`(SExtension (SNames) (SParam "a" (SMods) (TName "A") (SNone)) (SVal "a" (SMods) (SNone) (SNone)))`,
		"(SNames (SNone))", `(STParam "A" (SNone))`, `(STParam "A" (SNone) (SNone) (TName "A"))`,
		"(SLists (SParams) (SParams) (SParams) (SParams) (SParams))", "(SLists (SNames))", "(SParams (SNone))",
		`(SParam "a" (SMods) (SNone) (SNone))`, `(SParents (TName "A"))`, "(SParent)", `(SParent 1 (XInt 1))`, `(SParent 1 (TName "A") (XNamed "a" (XInt 1)))`,
		"(SBody (SNone))", "(SBody (SMods))", `(SBody (TName "A"))`, "(SBody (PWild))", `(SBody (XNamed "a" (XInt 1)))`, "(SBody (SCases))", `(SBody (SUnit))`,
		`(TSelect "A")`, `(TSelect "A" (XInt 1))`, `(TSelect "A" (XSelect "b" (XInt 1)))`, `(TSelect "A" (XSelect "b" (XSuper)))`, `(TSelect "A" (XSelect "b"))`, `(TSelect "A" (XApply (XThis)))`, `(TSelect "A" (TName "A"))`,
		`(TSingle (XUnit))`, `(TSingle (XSelect "a" (XSelect "b" (XBlock))))`, "(TSingle (XThis) (XThis))",
		`(TApply (TName "A"))`, "(TApply)", `(TApply (TName "A") (SNone))`, "(TFunction)", "(TFunction (SNone))", `(TAnd (TName "A"))`, `(TOr (TName "A") (TName "A") (TName "A"))`,
		"(TWild)", "(TWild (SNone))", `(TLambda (TName "A"))`, `(TLambda (SNames) (TName "A") (TName "A"))`,
		`(TMatch (TName "A"))`, `(TMatch (TName "A") (TName "B"))`, `(TCase (TName "A"))`, `(TAnd (TName "A") (TCase (TName "B") (TName "C")))`,
		`(XSelect "a")`, `(XSelect "a" (SNone))`, "(XApply)", `(XApply (XNamed "a" (XInt 1)))`, `(XApply (XThis) (XNamed "a" (XInt 1)) (XInt 2))`, "(XApply (XThis) (SNone))", `(XApply (XThis) (TName "A"))`,
		`(XNamed "a" (XNamed "b" (XInt 1)))`, "(XTypes (XThis))", "(XTypes (XThis) (XThis))", `(XTypes (TName "A"))`, `(XInfix "+" (XInt 1))`, `(XPrefix "-")`, `(XPrefix "-" (XInt 1) (XInt 1))`, `(XAssign "=" (XThis))`,
		`(XInterp "s")`, `(XInterp "s" (XInt 1))`, `(XInterp "s" (XString) (XInt 1))`, `(XInterp "s" (XString) (XInt 1) (XInt 1))`, `(XInterp "s" (XString) (SNone) (XString))`, `(XInterp "s" (XString) (XString))`,
		"(XIf (XTrue) (XInt 1))", "(XIf (XTrue) (SNone) (XInt 1))", "(XIf (SNone) (XInt 1) (XInt 1))", "(XWhile (XTrue) (SNone))",
		"(XFor (XUnit))", "(XFor (SGuard (XTrue)) (XUnit))", "(XFor (SGenerator (PWild) (XUnit)))", "(XFor (SGenerator (PWild) (XUnit)) (XUnit) (XUnit))", "(XFor (SBinding (PWild) (XUnit)) (SGenerator (PWild) (XUnit)) (XUnit))",
		"(SGenerator (XUnit) (XUnit))", "(SGenerator (PWild) (PWild))", "(SBinding (PWild))", "(SGuard)", "(SGuard (SNone))",
		"(XMatch (XUnit))", "(XMatch (XUnit) (SNone))", "(SCase (PWild) (XUnit))", "(SCase (PWild) (XUnit) (SNone))", "(SCase (XUnit) (SNone) (XUnit))", "(XTry (XUnit) (SNone) (SNone))", "(XTry (XUnit) (SCases))", "(SCases (PWild))",
		"(XThrow)", "(XThrow (SNone))", "(XReturn)", `(XReturn (TName "A"))`, "(XLambda)", `(XLambda (SLambdaParam "a" (SNone)))`, `(XLambda (XUnit) (SLambdaParam "a" (SNone)))`, `(SLambdaParam "a")`, `(SLambdaParam "a" (XUnit))`,
		"(XBlock (SNone))", "(XBlock (SGuard (XTrue)))", "(XNew (SParents) (SNone))", `(XNew (SParents (SParent (TName "A"))) (XBlock))`, `(XNew (SParent (TName "A")) (SNone))`, `(XNew (SParents (SParent (TName "A"))))`,
		`(XTyped (TName "A") (XInt 1))`, `(XTyped (XInt 1) (SNone))`, "(XQuote)", "(XSplice (SNone))", "(XQuote (XUnit) (XUnit))",
		`(PBind "a")`, `(PBind "a" (PBind "b" (PWild)))`, `(PBind "a" (XUnit))`, `(PTyped "a" (PWild))`, `(PTyped "a" (SNone))`,
		"(PLiteral)", "(PLiteral (XThis))", `(PLiteral (XName "a"))`, `(PLiteral (XPrefix "+" (XInt 1)))`, `(PLiteral (XPrefix "-" (XChar 1)))`, `(PLiteral (XPrefix "-"))`, `(PLiteral (XPrefix "-" (XPrefix "-" (XInt 1))))`, "(PLiteral (XInt 1) (XInt 1))", "(PLiteral (PWild))", "(PLiteral (XBlock))",
		`(PStable "a" (PWild))`, `(PApply "a" (XUnit))`, "(PAlt)", "(PAlt (PWild))", "(PAlt (PWild) (PAlt (PWild) (PWild)))", "(PAlt (PWild) (XUnit))",
		"(XBlock (99))", "(XQuote (-1))",
	} {
		if f := syntax.Check(tree(form)); f != fault(0, api.ErrForm) {
			t.Errorf("Check(%s) = %v", form, f)
		}
	}
}

// P2.1: any number is at most 200.
func TestMany(t *testing.T) {
	for _, c := range []struct{ front, kid, back string }{
		{"(SUnit", `(SImport "a")`, ")"}, {"(SBody", "(XUnit)", ")"}, {"(XBlock", "(XUnit)", ")"}, {"(SNames", `(STParam "A" (SNone) (SNone))`, ")"},
		{`(STParam "A" (SNone) (SNone)`, "(SNone)", ")"}, {"(SParams", `(SParam "a" (SMods) (TName "A") (SNone))`, ")"}, {"(SParents", `(SParent (TName "A"))`, ")"},
		{`(SParent 1 (TName "A")`, "(XUnit)", ")"}, {"(SCases", "(SCase (PWild) (SNone) (XUnit))", ")"}, {`(PApply "a"`, "(PWild)", ")"},
		{`(TApply (TName "A")`, `(TName "A")`, ")"}, {"(TFunction", `(TName "A")`, ` (TName "B"))`}, {`(TMatch (TName "A")`, `(TCase (TName "B") (TName "C"))`, ")"},
		{"(XApply (XThis)", "(XUnit)", ")"}, {"(XApply (XThis)", `(XNamed "a" (XUnit))`, ")"}, {"(XTypes (XThis)", `(TName "A")`, ")"}, {`(XInterp "s" (XString)`, "(XUnit) (XString)", ")"},
		{"(XFor (SGenerator (PWild) (XUnit))", "(SGuard (XTrue))", " (XUnit))"}, {"(XMatch (XUnit)", "(SCase (PWild) (SNone) (XUnit))", ")"},
		{"(XLambda", `(SLambdaParam "a" (SNone))`, " (XUnit))"}, {"(PAlt (PWild)", "(PWild)", ")"},
		{`(SExtension (SNames) (SParam "a" (SMods) (TName "A") (SNone))`, `(SDef "f" (SMods) (SNames) (SLists) (SNone) (SNone))`, ")"},
	} {
		if f := syntax.Check(tree(c.front + times(200, c.kid) + c.back)); f != (api.Fault{}) {
			t.Errorf("%s with 200 times %s: %v", c.front, c.kid, f)
		}
		if f := syntax.Check(tree(c.front + times(201, c.kid) + c.back)); f != fault(0, api.ErrForm) {
			t.Errorf("%s with 201 times %s: %v", c.front, c.kid, f)
		}
	}
}

// P2.1: the first error of a node is told, and the first node in preorder.
func TestFirstFault(t *testing.T) {
	for _, c := range []struct {
		form string
		want api.Fault
	}{
		{`(-1 "a" 7 (XInt))`, fault(0, api.ErrKind)}, {`(76 (SNone))`, fault(0, api.ErrKind)}, {"(1000000)", fault(0, api.ErrKind)},
		{`(SDef "_" 7)`, fault(0, api.ErrName)}, {`(SClass 9)`, fault(0, api.ErrName)}, {`(XName "1" 1 (XInt))`, fault(0, api.ErrName)},
		{`(SVal "a" 7)`, fault(0, api.ErrRange)}, {`(SMods "a" 32 (XInt))`, fault(0, api.ErrRange)}, {`(XInt "a" -1)`, fault(0, api.ErrRange)},
		{`(XName "a" 1 (XInt))`, fault(0, api.ErrInvalid)}, {`(XInt "a" 1 (XInt))`, fault(0, api.ErrInvalid)}, {`(XPrefix "*" 1)`, fault(0, api.ErrInvalid)}, {`(XPrefix "-" 1)`, fault(0, api.ErrInvalid)},
		{`(XInfix "+" (XInt 1) (XInt -1))`, fault(2, api.ErrRange)},
		{`(XBlock (XQuote (XInt 1)) (XQuote (XInt -1)) (XName "1"))`, fault(4, api.ErrRange)},
		{`(XBlock (XQuote (XInt 1)) (XName "1") (XInt -1))`, fault(3, api.ErrName)},
		{`(XBlock (XIf (XTrue) (XName "") (SNone)) (XIf))`, fault(3, api.ErrName)},
		{`(XBlock (XIf (XName "")) (XInt -1))`, fault(1, api.ErrForm)},
		{`(SUnit (SClass "A" (SMods 32) (SNames) (SLists) (SParents) (SNone)))`, fault(2, api.ErrRange)},
		{`(TSelect "A" (XSelect "1" (XThis)))`, fault(1, api.ErrName)},
		{`(PLiteral (XPrefix "-" (XInt -1)))`, fault(2, api.ErrRange)},
		{`(XNew (SParents (SParent)) (SNone))`, fault(2, api.ErrForm)},
	} {
		if f := syntax.Check(tree(c.form)); f != c.want {
			t.Errorf("Check(%s) = %v; want %v", c.form, f, c.want)
		}
	}
	text := syntax.Node{Kind: syntax.XString, Text: strings.Repeat("a", api.MaxText)}
	if f := syntax.Check(node(syntax.XQuote, text)); f != (api.Fault{}) {
		t.Errorf("a long text: %v", f)
	}
	text.Text += "a"
	if f := syntax.Check(node(syntax.XQuote, text)); f != fault(1, api.ErrForm) {
		t.Errorf("a text that is too long: %v", f)
	}
}

// P2.1: nesting and number of nodes, which come first.
func TestLimits(t *testing.T) {
	wrong := syntax.Node{Kind: -1}
	for _, c := range []struct {
		name string
		n    syntax.Node
		want api.Fault
	}{
		{"64 levels", chain(64), api.Fault{}}, {"65 levels", chain(65), fault(0, api.ErrDepth)}, {"60000 levels", chain(60000), fault(0, api.ErrDepth)},
		{"20000 nodes", wide(20000), api.Fault{}}, {"20001 nodes", wide(20001), fault(0, api.ErrLimit)}, {"40000 nodes", wide(40000), fault(0, api.ErrLimit)},
		{"many nodes, and then deep", node(syntax.XBlock, wide(30000), chain(64)), fault(0, api.ErrDepth)},
		{"many nodes, but not deep", node(syntax.XBlock, wide(30000), chain(63)), fault(0, api.ErrLimit)},
		{"wrong and deep", node(-1, chain(64)), fault(0, api.ErrDepth)}, {"wrong and large", node(-1, wide(20000)), fault(0, api.ErrLimit)},
		{"wrong behind many", node(syntax.XBlock, wide(30000), wrong), fault(0, api.ErrLimit)},
		{"a ring", ring(1), fault(0, api.ErrDepth)}, {"a ring of three", ring(3), fault(0, api.ErrDepth)},
		{"64 doubled levels", doubled(64), fault(0, api.ErrLimit)}, {"65 doubled levels", doubled(65), fault(0, api.ErrDepth)},
		{"no node", syntax.Node{}, api.Fault{}}, {"empty Kids", syntax.Node{Kids: []syntax.Node{}}, api.Fault{}},
	} {
		if f := syntax.Check(c.n); f != c.want {
			t.Errorf("%s: %v; want %v", c.name, f, c.want)
		}
	}
}

// P2.1, P1: random trees, right ones and ones that were changed at one place.
func TestRandomCheck(t *testing.T) {
	r := rand.New(rand.NewSource(3))
	m := maker{r}
	for range 3000 {
		n, f := syntax.Read(m.unit(5))
		if f.Code == api.ErrLimit {
			continue
		}
		if f != (api.Fault{}) {
			t.Fatal(f)
		}
		was := deepCopy(n)
		change(r, &n)
		changed := deepCopy(n)
		f = syntax.Check(n)
		if f.Code == api.OK && f.At != 0 || f.At < 0 || f.At >= syntax.Size(n) {
			t.Fatalf("a fault of %d nodes: %v", syntax.Size(n), f)
		}
		if !syntax.Equal(n, changed) || syntax.Equal(n, was) {
			t.Fatal("Check or Equal changed a tree")
		}
	}
}

// change changes a random node of a tree.
func change(r *rand.Rand, n *syntax.Node) {
	at := r.Intn(syntax.Size(*n))
	m, index := n, 0
	for index < at {
		index++
		k := 0
		for ; index+syntax.Size(m.Kids[k]) <= at; k++ {
			index += syntax.Size(m.Kids[k])
		}
		m = &m.Kids[k]
	}
	switch r.Intn(4) {
	case 0:
		m.Kind += 1 + r.Intn(syntax.Kinds)
	case 1:
		m.Text += "#"
	case 2:
		m.Num += 1 << r.Intn(40)
	case 3:
		m.Kids = append(m.Kids, node(r.Intn(syntax.Kinds)))
	}
}
