package desugar_test

import (
	"slices"
	"strconv"
	"testing"

	"newel/api"
	"newel/desugar"
	"newel/syntax"
)

// P5.3: Core, for trees with any root; those of the second list are right, too.
func TestCore(t *testing.T) {
	for _, text := range []string{
		"(SUnit)", `(SUnit (SImport "a.*"))`, "(SNone)", "(XThis)", "(PWild)", `(TName "A")`, "(SMods 4)",
		`(XAssign "=" (XName "a") (XThis))`, `(XAssign "=" (XSelect "a" (XApply (XThis))) (XThis))`,
		"(XIf (XThis) (XThis) (XUnit))", "(XReturn (XUnit))", "(XReturn (XThis))",
		`(PLiteral (XPrefix "-" (XInt 1)))`, `(SCase (PAlt (PLiteral (XPrefix "-" (XLong))) (PWild)) (SNone) (XThis))`,
		"(XBlock (XThis))", `(XBlock (SImport "a") (SVal "x" 2 (SMods) (SNone) (XThis)) (XThis) (XUnit))`, "(XBlock (XBlock (XUnit)))",
		`(SBody (SVal "x" (SMods) (SNone) (SNone)) (SDef "f" 1 (SMods) (SNames) (SLists) (SNone) (SNone)))`,
		`(SVal "x" (SMods) (SNone) (SNone))`, `(SDef "f" (SMods) (SNames) (SLists) (SNone) (SNone))`,
		`(SUnit (SClass "A" 4 (SMods) (SNames) (SLists) (SParents) (SBody (SClass "B" 3 (SMods) (SNames) (SLists) (SParents) (SNone)))))`,
		`(SUnit (SType "A" (SMods) (SNames) (SNone) (SNone) (SNone)) (SGiven (SMods) (SNames) (SLists) (TName "A") (XThis)))`,
		`(SLambdaParam "x" (SNone))`, `(XLambda (SLambdaParam "_1" (SNone)) (XThis))`, `(PTyped "_" (TName "A"))`,
		"(SLists)", "(SLists (SParams) (SParams))", "(SLists (SParams) (SParams) (SParams 1) (SParams 1))", "(SLists (SParams 1))", "(SParams 1)",
		"(XTry (XThis) (SCases) (SNone))", "(XWhile (XThis) (XThis))", "(XQuote (XSplice (XBlock (XThis))))", `(XString "a")`, `(XSuper)`,
	} {
		if !desugar.Core(tree(t, text)) {
			t.Errorf("not core: %s", text)
		}
	}
	const class = "(SMods) (SNames) (SLists) (SParents)"
	for _, text := range []string{
		`(SExtension (SNames) (SParam "x" (SMods) (TName "A") (SNone)) (SDef "f" (SMods) (SNames) (SLists) (SNone) (SNone)))`,
		`(SUnit (SExtension (SNames) (SParam "x" (SMods) (TName "A") (SNone)) (SDef "f" (SMods) (SNames) (SLists) (SNone) (SNone))))`,
		`(SEnumCase "A" (SNames) (SLists) (SParents))`, `(SBody (SEnumCase "A" (SNames) (SLists) (SParents)))`,
		`(XInfix "+" (XThis) (XThis))`, `(XPrefix "-" (XInt))`, `(XApply (XThis) (XPrefix "-" (XInt)))`, `(XInterp "s" (XString))`,
		`(XFor (SGenerator (PWild) (XThis)) (XThis))`, "(SGenerator (PWild) (XThis))", "(SBinding (PWild) (XThis))", "(SGuard (XThis))",
		`(SUnit (SClass "A" 5 ` + class + ` (SNone)))`, `(SClass "A" 5 ` + class + ` (SBody))`,
		`(XAssign "+=" (XName "a") (XThis))`, `(XAssign "=" (XApply (XName "a")) (XThis))`, `(XAssign "=" (XInt) (XThis))`,
		"(XIf (XThis) (XThis) (SNone))", "(XReturn (SNone))", "(XThrow (XReturn (SNone)))",
		"(XBlock)", `(XBlock (SImport "a"))`, `(XBlock (XThis) (SVal "x" (SMods) (SNone) (XThis)))`,
		`(XBlock (SVal "x" (SMods) (TName "A") (SNone)) (XThis))`, `(XBlock (SDef "f" (SMods) (SNames) (SLists) (SNone) (XThis)) (XThis))`,
		`(XBlock (SClass "A" ` + class + ` (SNone)) (XThis))`, `(XBlock (SType "A" (SMods) (SNames) (SNone) (SNone) (SNone)) (XThis))`,
		`(XBlock (SGiven (SMods) (SNames) (SLists) (TName "A") (XThis)) (XThis))`,
		`(SUnit (SDef "f" (SMods) (SNames) (SLists) (SNone) (XBlock (XBlock) (XThis))))`,
		`(SLambdaParam "_" (SNone))`, `(XLambda (SLambdaParam "x" (SNone)) (SLambdaParam "_" (SNone)) (XThis))`,
		"(SLists (SParams 1) (SParams))", "(SLists (SParams) (SParams 1) (SParams 1) (SParams))",
	} {
		if desugar.Core(tree(t, text)) {
			t.Errorf("core: %s", text)
		}
	}
	wrong := node(syntax.XIf, "", node(syntax.XThis, ""))
	deep := node(syntax.XThis, "")
	for range api.MaxNest {
		deep = node(syntax.XThrow, "", deep)
	}
	if desugar.Core(wrong) || desugar.Core(node(syntax.Kinds, "")) || desugar.Core(deep) || !desugar.Core(deep.Kids[0]) {
		t.Errorf("core, though not right")
	}
}

// P5.3: Fresh skips the texts of all nodes, whatever their kinds.
func TestFresh(t *testing.T) {
	loop := node(syntax.XBlock, "_2", syntax.Node{}, node(syntax.XThis, "_3"))
	loop.Kids[0] = loop
	for _, c := range []struct {
		n     syntax.Node
		count int
		want  []string
	}{
		{node(syntax.SUnit, ""), 3, []string{"_1", "_2", "_3"}},
		{node(syntax.SUnit, ""), 0, nil},
		{node(syntax.XName, "_1"), 2, []string{"_2", "_3"}},
		{tree(t, `(XApply (XName "_2") (XString "_1") (XNamed "_4" (XTyped (XThis) (TName "_6"))))`), 3, []string{"_3", "_5", "_7"}},
		{tree(t, `(SCase (PBind "_1" (PStable "_2")) (SNone) (XSelect "_3" (XName "_10")))`), 7, []string{"_4", "_5", "_6", "_7", "_8", "_9", "_11"}},
		{tree(t, `(XApply (XName "_01") (XName "__1") (XString "_1 ") (XString "a._1") (XName "_1a"))`), 1, []string{"_1"}},
		{node(syntax.Kinds, "_1", node(-1, "_3")), 2, []string{"_2", "_4"}},
		{loop, 2, []string{"_1", "_4"}},
	} {
		if l, code := desugar.Fresh(c.n, c.count); code != api.OK || !slices.Equal(l, c.want) {
			t.Errorf("Fresh(%s, %d) = %v, %v, want %v", form(c.n), c.count, l, code, c.want)
		}
	}
	l, code := desugar.Fresh(node(syntax.XName, "_500"), 1000)
	if code != api.OK || len(l) != 1000 {
		t.Fatalf("%d names, %v", len(l), code)
	}
	for i, name := range l {
		number := i + 1
		if number >= 500 {
			number++
		}
		if name != "_"+strconv.Itoa(number) {
			t.Fatalf("name %d is %s", i, name)
		}
	}
	for _, count := range []int{-1, 1001, -1 << 63, 1<<63 - 1} {
		if l, code := desugar.Fresh(node(syntax.SUnit, ""), count); l != nil || code != api.ErrRange {
			t.Errorf("Fresh(%d) = %v, %v", count, l, code)
		}
	}
}

// P5.3: Bound.
func TestBound(t *testing.T) {
	for _, c := range []struct {
		text string
		want []string
	}{
		{"(PWild)", nil},
		{`(PBind "x" (PWild))`, []string{"x"}},
		{`(PTyped "x" (TName "A"))`, []string{"x"}},
		{`(PTyped "_" (TName "A"))`, nil},
		{`(PStable "a.b")`, nil},
		{`(PLiteral (XString "x"))`, nil},
		{`(PBind "x" (PApply "A" (PBind "c" (PTyped "b" (TSelect "T" (XName "p")))) (PAlt (PBind "a" (PLiteral (XPrefix "-" (XInt 1)))) (PTyped "_" (TName "B")) (PTyped "x" (TName "B"))) (PStable "d")))`,
			[]string{"x", "c", "b", "a", "x"}},
		{`(XName "x")`, nil},
		{"(SNone)", nil},
		{`(SCase (PBind "x" (PWild)) (SNone) (XThis))`, nil},
		{`(XMatch (XThis) (SCase (PBind "x" (PWild)) (SNone) (XThis)))`, nil},
	} {
		if l := desugar.Bound(tree(t, c.text)); !slices.Equal(l, c.want) {
			t.Errorf("Bound(%s) = %v, want %v", c.text, l, c.want)
		}
	}
	inner := node(syntax.PBind, "x", node(syntax.PBind, "y", node(syntax.PWild, "")))
	deep := node(syntax.PTyped, "x", node(syntax.TName, "A"))
	for range api.MaxNest - 2 {
		deep = node(syntax.PApply, "A", deep)
	}
	if l := desugar.Bound(deep); !slices.Equal(l, []string{"x"}) {
		t.Errorf("Bound = %v", l)
	}
	for _, n := range []syntax.Node{inner, node(syntax.PApply, "A", deep), node(syntax.PBind, "x"), node(syntax.Kinds, "x"), node(-1, "x"), node(syntax.PAlt, "", node(syntax.PBind, "x", node(syntax.PWild, "")))} {
		if l := desugar.Bound(n); l != nil {
			t.Errorf("Bound = %v of a tree that is not right", l)
		}
	}
}
