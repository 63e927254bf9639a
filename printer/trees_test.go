package printer_test

import (
	"testing"

	"newel/api"
	"newel/printer"
	"newel/syntax"
)

var roots = []string{"SUnit", "D", "E", "E", "E", "T", "P"}

// made returns a tree of one of the classes, and whether it is right.
func made(m *maker, i int) (syntax.Node, bool) {
	n := m.class(roots[i%len(roots)], 1+m.Intn(28))
	if roots[i%len(roots)] == "D" {
		n = syntax.Node{Kind: syntax.SUnit, Kids: []syntax.Node{n}}
	}
	return n, syntax.Check(n).Code == api.OK && syntax.Depth(n) <= 30
}

// P4.1 to P4.4: random trees that have texts.
func TestRandomTrees(t *testing.T) {
	m := newMaker(2, false)
	right := 0
	for i := range 12000 {
		if n, ok := made(m, i); ok {
			right++
			checkPrinted(t, n)
		}
	}
	if right < 6000 {
		t.Errorf("only %d trees", right)
	}
}

// P4.1: of random right trees, those that have no text are ErrForm.
func TestOddTrees(t *testing.T) {
	m := newMaker(3, true)
	odd := 0
	for i := range 12000 {
		n, ok := made(m, i)
		if !ok {
			continue
		}
		text, code := printer.Print(n, i%printer.Styles)
		switch code {
		case api.OK:
			checkRead(t, n, text)
		case api.ErrForm:
			odd++
		default:
			t.Fatalf("%v: %s", code, form(n))
		}
	}
	if odd < 300 {
		t.Errorf("only %d trees without a text", odd)
	}
}
