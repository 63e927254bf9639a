package desugar_test

import (
	"slices"
	"strings"
	"testing"

	"newel/api"
	"newel/desugar"
	"newel/syntax"
)

// isCoreNode tells whether a node can be in a core tree, by a list of the texts
// that the text forms of core trees do not have, and for the kinds of which
// that does not tell.
func isCoreNode(n *syntax.Node) bool {
	last := syntax.Node{}
	if len(n.Kids) > 0 {
		last = n.Kids[len(n.Kids)-1]
	}
	name := syntax.Name(n.Kind)
	switch name {
	case "SClass":
		return n.Num < 5
	case "XAssign":
		return n.Text == "=" && strings.Contains("XName XSelect", syntax.Name(n.Kids[0].Kind))
	case "XIf", "XReturn":
		return last.Kind != syntax.SNone
	case "SLambdaParam":
		return n.Text != "_"
	case "SLists":
		return slices.IsSortedFunc(n.Kids, func(a, b syntax.Node) int { return int(a.Num - b.Num) })
	case "XBlock":
		for _, k := range n.Kids {
			isValue := k.Kind == syntax.SVal && k.Kids[2].Kind != syntax.SNone
			if syntax.Name(k.Kind)[0] != 'X' && k.Kind != syntax.SImport && !isValue {
				return false
			}
		}
		return syntax.Name(last.Kind)[0] == 'X'
	}
	return !strings.Contains(" SExtension SEnumCase XInfix XPrefix XInterp XFor SGenerator SBinding SGuard ", " "+name+" ")
}

func isCoreTree(n *syntax.Node) bool {
	if n.Kind == syntax.PLiteral {
		return true
	}
	for i := range n.Kids {
		if !isCoreTree(&n.Kids[i]) {
			return false
		}
	}
	return isCoreNode(n)
}

// isFresh tells whether a text is a fresh name.
func isFresh(text string) bool {
	number, ok := strings.CutPrefix(text, "_")
	return ok && number != "" && number[0] != '0' && strings.Trim(number, "0123456789") == ""
}

// checkCore checks what P5.1 to P5.4 say of a unit or an expression, and
// returns its core tree.
func checkCore(t *testing.T, n syntax.Node) (syntax.Node, api.Fault) {
	t.Helper()
	text, where := form(n), places(n)
	out, f := core(n)
	if form(n) != text || places(n) != where {
		t.Fatalf("the argument has changed: %s", text)
	}
	again, g := core(n)
	if g != f || form(again) != form(out) || places(again) != places(out) {
		t.Fatalf("twice: %v, %v: %s", f, g, text)
	}
	if desugar.Core(n) != isCoreTree(&n) {
		t.Fatalf("Core is %v: %s", desugar.Core(n), text)
	}
	if isCoreTree(&n) && (f.Code != api.OK || form(out) != text || places(out) != where) {
		t.Fatalf("%v: a core tree has changed\n%s\n%s", f, text, form(out))
	}
	if f.Code != api.OK {
		checkFaultOf(t, n, out, f)
		return out, f
	}
	if syntax.Check(out).Code != api.OK || !desugar.Core(out) || !isCoreTree(&out) {
		t.Fatalf("no core tree\n%s\n%s", text, form(out))
	}
	same, h := core(out)
	if h.Code != api.OK || form(same) != form(out) || places(same) != places(out) {
		t.Fatalf("%v: a core tree has changed\n%s\n%s", h, form(out), form(same))
	}
	checkNames(t, n, out)
	checkMemory(t, n, out)
	return out, f
}

// checkAny checks what the functions say of any right tree.
func checkAny(t *testing.T, n syntax.Node) {
	t.Helper()
	name := syntax.Name(n.Kind)
	if n.Kind == syntax.SUnit || name[0] == 'X' && n.Kind != syntax.XNamed {
		checkCore(t, n)
		return
	}
	if desugar.Core(n) != isCoreTree(&n) {
		t.Fatalf("Core is %v: %s", desugar.Core(n), form(n))
	}
	if out, f := desugar.Unit(n); f != fault(0, api.ErrKind) || !isZero(out) {
		t.Fatalf("%v: %s", f, form(n))
	}
	if l := desugar.Bound(n); name[0] != 'P' && l != nil {
		t.Fatalf("%v: %s", l, form(n))
	}
}

// checkFaultOf checks that a fault is one that the chapter names, at a node.
func checkFaultOf(t *testing.T, n, out syntax.Node, f api.Fault) {
	t.Helper()
	known := f.At == 0
	each(&n, func(m *syntax.Node) { known = known || m.At == f.At })
	codes := []api.Errno{api.ErrName, api.ErrForm, api.ErrFinal, api.ErrVariance, api.ErrEmpty, api.ErrOrder, api.ErrDepth, api.ErrLimit}
	if !isZero(out) || !known || !slices.Contains(codes, f.Code) {
		t.Fatalf("%v: %s", f, form(n))
	}
}

// checkNames checks that names and places that are new are the first fresh
// names, and no places.
func checkNames(t *testing.T, n, out syntax.Node) {
	t.Helper()
	texts, ats, made := map[string]bool{}, map[int]bool{}, map[string]bool{}
	each(&n, func(m *syntax.Node) { texts[m.Text], ats[m.At] = true, true })
	each(&out, func(m *syntax.Node) {
		if !ats[m.At] {
			t.Fatalf("another place: %d: %s", m.At, form(n))
		}
		if isFresh(m.Text) && !texts[m.Text] {
			made[m.Text] = true
		}
	})
	l, code := desugar.Fresh(n, len(made))
	for _, name := range l {
		if !made[name] || texts[name] || code != api.OK {
			t.Fatalf("%v, %v, but %v: %s", l, code, made, form(n))
		}
	}
}

// checkMemory checks that no two lists of kids, of the result and of the
// argument, share memory.
func checkMemory(t *testing.T, n, out syntax.Node) {
	t.Helper()
	seen := map[*syntax.Node]bool{}
	see := func(m *syntax.Node) {
		if seen[m] {
			t.Fatalf("shared memory: %s", form(n))
		}
		seen[m] = true
	}
	for i := range n.Kids {
		each(&n.Kids[i], see)
	}
	for i := range out.Kids {
		each(&out.Kids[i], see)
	}
	each(&out, func(m *syntax.Node) {
		for i := len(m.Kids); i < cap(m.Kids); i++ {
			if seen[&m.Kids[:cap(m.Kids)][i]] {
				t.Fatalf("shared memory behind a list: %s", form(n))
			}
		}
	})
}

func randomTree(m *maker, i int) syntax.Node {
	if i%3 == 0 {
		return m.node(syntax.SUnit, 2+m.Intn(9))
	}
	return m.class("E", 2+m.Intn(9))
}

// P5.4 at random trees that have nothing but abbreviations.
func TestRandomTrees(t *testing.T) {
	m := newMaker(1)
	right := 0
	for i := range 6000 {
		n := randomTree(m, i)
		if syntax.Check(n).Code != api.OK || syntax.Size(n) > 2000 {
			continue
		}
		_, f := checkCore(t, n)
		switch f.Code {
		case api.OK:
			right++
		case api.ErrDepth, api.ErrLimit:
		default:
			t.Fatalf("%v: %s", f, form(n))
		}
	}
	if right < 4000 {
		t.Errorf("only %d trees", right)
	}
}

// P5.4 at random trees with faults, too.
func TestRandomFaults(t *testing.T) {
	m := newMaker(2)
	m.stray = true
	codes := map[api.Errno]int{}
	for i := range 8000 {
		n := randomTree(m, i)
		if syntax.Check(n).Code == api.OK && syntax.Size(n) <= 2000 {
			_, f := checkCore(t, n)
			codes[f.Code]++
		}
	}
	for _, code := range []api.Errno{api.OK, api.ErrName, api.ErrForm, api.ErrFinal, api.ErrVariance, api.ErrEmpty, api.ErrOrder} {
		if codes[code] < 3 {
			t.Errorf("only %d of %v", codes[code], code)
		}
	}
}

// P5.4: core trees stay as they are.
func TestRandomCoreTrees(t *testing.T) {
	m := newMaker(3)
	m.core = true
	for i := range 4000 {
		n := randomTree(m, i)
		if syntax.Check(n).Code != api.OK {
			continue
		}
		if _, f := checkCore(t, n); f.Code != api.OK || !desugar.Core(n) {
			t.Fatalf("%v: %s", f, form(n))
		}
	}
}

// P5.4: a for expression with one generator and a variable is a call of map or
// foreach.
func TestRandomLoops(t *testing.T) {
	m := newMaker(4)
	for range 2000 {
		e, body := m.class("E", 1+m.Intn(4)), m.class("E", 1+m.Intn(4))
		pattern, typed := node(syntax.PBind, m.word(), node(syntax.PWild, "")), syntax.Node{}
		if m.Intn(2) == 0 {
			typed = m.class("T", 3)
			pattern = node(syntax.PTyped, m.word(), typed)
		}
		loop := node(syntax.XFor, "", node(syntax.SGenerator, "", pattern, e), body)
		loop.Num = int64(m.Intn(2))
		method := []string{"foreach", "map"}[loop.Num]
		call := node(syntax.XApply, "", node(syntax.XSelect, method, e), node(syntax.XLambda, "", node(syntax.SLambdaParam, pattern.Text, typed), body))
		if syntax.Check(loop).Code != api.OK {
			continue
		}
		out, f := desugar.Expr(loop)
		want, g := desugar.Expr(call)
		if f != g || !syntax.Equal(out, want) {
			t.Fatalf("%v, %v\n%s\n%s", f, g, form(out), form(want))
		}
	}
}
