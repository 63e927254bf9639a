package symbols_test

import (
	"slices"
	"strings"
	"testing"

	"newel/api"
	"newel/symbols"
)

// P6.1: names.
func TestIsName(t *testing.T) {
	for _, s := range []string{
		"a", "Z", "_", "$", "__", "_1", "$0", "a$b_9", "x1y2", "class", "print",
		"+", "-", "*", "/", "%", "<", ">", "=", "!", "&", "|", "^", "~", ":", "?", "=>", "+-*/%<>=!&|^~:?",
		strings.Repeat("a", 64), strings.Repeat("+", 64),
	} {
		if !symbols.IsName(s) {
			t.Errorf("%q is no name", s)
		}
	}
	for _, s := range []string{
		"", "0", "9a", "1_", " ", "a ", " a", "a b", "a.b", "a-b", "+a", "a+", "+_", "$+", "#", "a#", "+#", "@", "a\n", "\x00", "a\x00",
		"(", "[", "\\", "'", "\"", ",", ";", "`", "{", "é", "aé", "\xff", "a\xff", "µ", "ª", "Ａ", "٣", "×",
		strings.Repeat("a", 65), strings.Repeat("+", 65), strings.Repeat("a", 1<<16),
	} {
		if symbols.IsName(s) {
			t.Errorf("%q is a name", s)
		}
	}
}

// P6.1: each byte alone, behind a letter and behind an operator.
func TestNameBytes(t *testing.T) {
	for b := range 256 {
		s := string([]byte{byte(b)})
		isDigit := b >= '0' && b <= '9'
		isLetter := b >= 'a' && b <= 'z' || b >= 'A' && b <= 'Z' || b == '_' || b == '$'
		isOperator := b != 0 && strings.IndexByte("+-*/%<>=!&|^~:?", byte(b)) >= 0
		for text, want := range map[string]bool{s: isLetter || isOperator, "q" + s: isLetter || isDigit, "+" + s: isOperator, "q" + s + "q": isLetter || isDigit} {
			if symbols.IsName(text) != want {
				t.Errorf("IsName(%q) = %v", text, !want)
			}
		}
	}
}

// P6.3: full names, and the classes that have none.
func TestFullName(t *testing.T) {
	p := sample()
	for i, want := range []string{cShape: "Shape", cMain: "Main#", cInner: "Main#.Inner", cDeep: "Main#.Inner.Deep#", cTrait: "Trait"} {
		if want == "" {
			continue
		}
		if s, e := symbols.FullName(p, i); s != want || e != api.OK {
			t.Errorf("FullName(%d) = %q, %v, not %q", i, s, e, want)
		}
	}
	for _, i := range []int{-1, -2, 9, 1 << 40, -1 << 40} {
		if s, e := symbols.FullName(p, i); s != "" || e != api.ErrRange {
			t.Errorf("FullName(%d) = %q, %v", i, s, e)
		}
	}
	p.Classes[cMain].Owner = cInner // Main and Inner are inside of each other, Deep of both
	for _, i := range []int{cMain, cInner, cDeep} {
		if s, e := symbols.FullName(p, i); s != "" || e != api.ErrCycle {
			t.Errorf("FullName(%d) = %q, %v", i, s, e)
		}
	}
	p.Classes[cInner].Owner = 9 // of a class that does not exist
	if s, e := symbols.FullName(p, cDeep); s != "Inner.Deep#" || e != api.OK {
		t.Errorf("FullName = %q, %v", s, e)
	}
	alone := api.Program{Classes: []api.Class{{Name: "a", Owner: 0}}}
	if s, e := symbols.FullName(alone, 0); s != "" || e != api.ErrCycle {
		t.Errorf("FullName = %q, %v", s, e)
	}
}

// P6.2: classes by owner, name and kind, the first one of several.
func TestFindClass(t *testing.T) {
	b := newBuilder()
	b.class(api.IsTrait, 0, -1, "A")
	b.class(api.IsObject, 0, -1, "A")
	b.class(api.IsClass, 0, -1, "A")
	b.class(api.IsClass, 0, 1, "A")
	b.class(api.IsObject, 0, -1, "A")
	b.class(api.IsObject, 0, 1, "B")
	b.class(7, 0, 1, "C")
	for _, c := range []struct {
		owner  int
		name   string
		object bool
		want   int
	}{
		{-1, "A", false, 0}, {-1, "A", true, 1}, {1, "A", false, 3}, {1, "A", true, -1}, {1, "B", true, 5}, {1, "B", false, -1},
		{1, "C", false, 6}, {1, "C", true, -1}, {0, "A", false, -1}, {-1, "", false, -1}, {-2, "A", false, -1}, {7, "A", true, -1}, {-1, "a", false, -1},
	} {
		if i := symbols.FindClass(b.p, c.owner, c.name, c.object); i != c.want {
			t.Errorf("FindClass(%d, %q, %v) = %d, not %d", c.owner, c.name, c.object, i, c.want)
		}
	}
	if i := symbols.FindClass(api.Program{}, -1, "A", false); i != -1 {
		t.Errorf("FindClass = %d", i)
	}
}

// P6.2: members in the order of the lists; overloaded methods, and a type
// member with the name of a field.
func TestDeclared(t *testing.T) {
	b := newBuilder()
	b.class(api.IsClass, 0, -1, "A")
	b.class(api.IsClass, 0, -1, "B")
	for range 3 {
		b.method(0, 0, "m")
	}
	b.method(1, 0, "m")
	b.method(-1, 0, "m")
	b.field(1, 0, "m")
	b.field(0, 0, "x")
	b.field(0, 0, "m")
	b.typeMember(0, "x")
	b.typeMember(0, "m")
	b.p.Classes[0].Methods = []int{2, 0, 1}
	m := func(i int) api.Ref { return api.Ref{Kind: api.RefMethod, Index: i} }
	f := func(i int) api.Ref { return api.Ref{Kind: api.RefField, Index: i} }
	y := func(i int) api.Ref { return api.Ref{Kind: api.RefType, Index: i} }
	for _, c := range []struct {
		class int
		name  string
		want  []api.Ref
	}{
		{0, "m", []api.Ref{f(2), m(2), m(0), m(1), y(1)}}, {0, "x", []api.Ref{f(1), y(0)}}, {1, "m", []api.Ref{f(0), m(3)}},
		{1, "x", nil}, {0, "", nil}, {-1, "m", nil}, {2, "m", nil}, {-1 << 60, "m", nil},
	} {
		if l := symbols.Declared(b.p, c.class, c.name); !slices.Equal(l, c.want) {
			t.Errorf("Declared(%d, %q) = %v, not %v", c.class, c.name, l, c.want)
		}
	}
	c := &b.p.Classes[1]
	c.Methods, c.Fields, c.Types = []int{-1, 9, 3}, []int{3, -1, 0}, []int{-1, 2}
	if l := symbols.Declared(b.p, 1, "m"); !slices.Equal(l, []api.Ref{f(0), m(3)}) {
		t.Errorf("with indices that do not exist: %v", l)
	}
}

// P6.2: parents, children and nesting of the sample; a parent that is no TClass
// counts for nothing, whatever its Sym is.
func TestRelations(t *testing.T) {
	p := sample()
	for _, c := range []struct {
		what      string
		got, want []int
	}{
		{"Ancestors End", symbols.Ancestors(p, cEnd), []int{cShape, cBase, cCircle}},
		{"Ancestors Trait", symbols.Ancestors(p, cTrait), []int{cShape}},
		{"Ancestors Shape", symbols.Ancestors(p, cShape), nil},
		{"Ancestors -1", symbols.Ancestors(p, -1), nil},
		{"Ancestors 9", symbols.Ancestors(p, 9), nil},
		{"Children Shape", symbols.Children(p, cShape), []int{cBase, cCircle, cTrait}},
		{"Children Circle", symbols.Children(p, cCircle), []int{cEnd}},
		{"Children End", symbols.Children(p, cEnd), nil},
		{"Children -1", symbols.Children(p, -1), nil},
		{"Children 9", symbols.Children(p, 9), nil},
	} {
		if !slices.Equal(c.got, c.want) {
			t.Errorf("%s: %v, not %v", c.what, c.got, c.want)
		}
	}
	for _, c := range []struct {
		inner, outer int
		want         bool
	}{
		{cInner, cMain, true}, {cDeep, cInner, true}, {cDeep, cMain, true}, {cMain, cMain, false}, {cMain, cInner, false},
		{cMain, -1, false}, {-1, -1, false}, {-1, cMain, false}, {9, cMain, false}, {cInner, 9, false}, {-2, -2, false},
	} {
		if symbols.Inside(p, c.inner, c.outer) != c.want {
			t.Errorf("Inside(%d, %d) = %v", c.inner, c.outer, !c.want)
		}
	}
}

// P6.2: what is wrong: cycles, parents of other kinds, indices that do not
// exist, a parent that stands twice.
func TestWrongRelations(t *testing.T) {
	p := sample()
	p.Classes[cShape].Parents = []api.Type{parent(-1, 0), parent(cTrait, 1), {Kind: api.TClass, Sym: 9}, {Kind: api.TClass, Sym: -1}}
	p.Classes[cMeter].Parents = []api.Type{{Kind: api.TAny, Sym: cEnd}, {Kind: api.TThis, Sym: cEnd}, parent(cEnd, 0), parent(cEnd, 0)}
	p.Classes[cMain].Owner, p.Classes[cShape].Owner, p.Classes[cBase].Owner = cInner, 9, -2
	if l := symbols.Ancestors(p, cShape); !slices.Equal(l, []int{cShape, cTrait}) {
		t.Errorf("Ancestors = %v", l)
	}
	if l := symbols.Ancestors(p, cMeter); !slices.Equal(l, []int{cShape, cBase, cCircle, cEnd, cTrait}) {
		t.Errorf("Ancestors = %v", l)
	}
	if l := symbols.Children(p, cEnd); !slices.Equal(l, []int{cMeter}) {
		t.Errorf("Children = %v", l)
	}
	if l := symbols.Children(p, 9); len(l) > 0 {
		t.Errorf("Children = %v", l)
	}
	if !symbols.Inside(p, cMain, cMain) || !symbols.Inside(p, cDeep, cMain) || symbols.Inside(p, cDeep, cDeep) {
		t.Error("Inside in a cycle")
	}
	if symbols.Inside(p, cShape, 9) || symbols.Inside(p, cBase, -2) {
		t.Error("Inside of what does not exist")
	}
}

// P6.2, P6.3: long ways.
func TestLongWays(t *testing.T) {
	const n = 1 << 16
	p := api.Program{Main: -1}
	for i := range n {
		p.Classes = append(p.Classes, api.Class{Name: "x", Owner: i - 1, Parents: []api.Type{parent(i-1, 0)}})
	}
	if l := symbols.Ancestors(p, n-1); len(l) != n-1 || l[0] != 0 || l[n-2] != n-2 {
		t.Errorf("%d ancestors", len(l))
	}
	if !symbols.Inside(p, n-1, 0) || symbols.Inside(p, n-1, n-1) {
		t.Error("Inside")
	}
	if s, e := symbols.FullName(p, n-1); e != api.OK || s != strings.Repeat("x.", n-1)+"x" {
		t.Errorf("FullName: %v, %d bytes", e, len(s))
	}
	p.Classes[0].Owner, p.Classes[0].Parents = n-1, []api.Type{parent(n-1, 0)}
	if !symbols.Inside(p, 7, 7) || len(symbols.Ancestors(p, 7)) != n {
		t.Error("a cycle of all classes")
	}
	if s, e := symbols.FullName(p, 7); e != api.ErrCycle || s != "" {
		t.Errorf("FullName: %v, %d bytes", e, len(s))
	}
	if f := symbols.Check(p); f != fault(0, 0, api.ErrLimit) {
		t.Errorf("Check = %v", f)
	}
}

// R4: results are new memory.
func TestNewMemory(t *testing.T) {
	p := sample()
	for range 2 {
		for _, l := range [][]int{symbols.Ancestors(p, cEnd), symbols.Children(p, cShape)} {
			for i := range l {
				l[i] = -7
			}
		}
		for _, l := range [][]api.Ref{symbols.Declared(p, cEnd, "Unit"), symbols.Declared(p, cCircle, "x")} {
			for i := range l {
				l[i].Index = -7
			}
		}
	}
	if l := symbols.Ancestors(p, cEnd); !slices.Equal(l, []int{cShape, cBase, cCircle}) {
		t.Errorf("Ancestors = %v", l)
	}
	if l := symbols.Declared(p, cCircle, "x"); !slices.Equal(l, []api.Ref{{Kind: api.RefField, Index: fX}}) {
		t.Errorf("Declared = %v", l)
	}
	if f := symbols.Check(p); f.Code != api.OK {
		t.Errorf("Check = %v", f)
	}
}
