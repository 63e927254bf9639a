package symbols_test

import (
	"math"
	"math/rand"
	"reflect"
	"slices"
	"strings"
	"testing"

	"newel/api"
	"newel/symbols"
)

// random is a chooser with a fixed seed.
func random(seed int64) chooser {
	return chooser{rand.New(rand.NewSource(seed)).Intn}
}

// indices are those of the classes, and some that do not exist.
func indices(p api.Program) []int {
	l := []int{-2, -1, len(p.Classes), len(p.Classes) + 1, math.MinInt, math.MaxInt}
	for i := range p.Classes {
		l = append(l, i)
	}
	return l
}

// holds tells whether two classes exist and a table has them.
func holds(table [][]bool, i, k int) bool {
	row, _ := at(table, i)
	is, _ := at(row, k)
	return is
}

// trues are the indices at which a list is true.
func trues(list []bool) []int {
	var l []int
	for i, is := range list {
		if is {
			l = append(l, i)
		}
	}
	return l
}

// fullName is the full name by the definition.
func fullName(p *api.Program, inside [][]bool, i int) (string, api.Errno) {
	c, ok := at(p.Classes, i)
	if !ok {
		return "", api.ErrRange
	}
	for k := range p.Classes {
		if inside[k][k] && (k == i || inside[i][k]) {
			return "", api.ErrCycle
		}
	}
	name := c.Name
	if c.Kind == api.IsObject {
		name += "#"
	}
	if _, ok := at(p.Classes, c.Owner); ok {
		outer, _ := fullName(p, inside, c.Owner)
		name = outer + "." + name
	}
	return name, api.OK
}

// declared are the members of a class with a name, by the definition.
func declared(p *api.Program, i int, name string) []api.Ref {
	var l []api.Ref
	c, _ := at(p.Classes, i)
	for _, k := range c.Fields {
		if f, ok := at(p.Fields, k); ok && f.Name == name {
			l = append(l, api.Ref{Kind: api.RefField, Index: k})
		}
	}
	for _, k := range c.Methods {
		if m, ok := at(p.Methods, k); ok && m.Name == name {
			l = append(l, api.Ref{Kind: api.RefMethod, Index: k})
		}
	}
	for _, k := range c.Types {
		if m, ok := at(p.Types, k); ok && m.Name == name {
			l = append(l, api.Ref{Kind: api.RefType, Index: k})
		}
	}
	return l
}

// names are the names in a program, and one that it does not have.
func names(p api.Program) []string {
	l := []string{"nowhere"}
	for _, s := range placesOf(&p).names {
		l = append(l, *s)
	}
	slices.Sort(l)
	return slices.Compact(l)
}

// checkFunctions holds all functions against their definitions, for any
// program and any indices.
func checkFunctions(t *testing.T, p api.Program) {
	t.Helper()
	before := copied(p)
	p = copied(p)
	inside, ancestors := aroundTable(&p), ancestorTable(&p)
	for _, i := range indices(p) {
		var parents, children []int
		if _, ok := at(p.Classes, i); ok {
			parents = trues(ancestors[i])
			for k := range p.Classes {
				if slices.ContainsFunc(p.Classes[k].Parents, func(u api.Type) bool { return u.Kind == api.TClass && u.Sym == i }) {
					children = append(children, k)
				}
			}
		}
		if l := symbols.Ancestors(p, i); !slices.Equal(l, parents) {
			t.Fatalf("Ancestors(%d) = %v, not %v", i, l, parents)
		}
		if l := symbols.Children(p, i); !slices.Equal(l, children) {
			t.Fatalf("Children(%d) = %v, not %v", i, l, children)
		}
		for _, k := range indices(p) {
			if is := symbols.Inside(p, i, k); is != holds(inside, i, k) {
				t.Fatalf("Inside(%d, %d) = %v", i, k, is)
			}
		}
		name, code := fullName(&p, inside, i)
		if s, e := symbols.FullName(p, i); s != name || e != code {
			t.Fatalf("FullName(%d) = %q, %v, not %q, %v", i, s, e, name, code)
		}
		checkNames(t, p, i)
	}
	if !reflect.DeepEqual(spares(p), spares(before)) {
		t.Fatal("the argument has changed")
	}
}

// checkNames holds what is found by a class and a name against the definitions.
func checkNames(t *testing.T, p api.Program, i int) {
	t.Helper()
	for _, s := range names(p) {
		if l := symbols.Declared(p, i, s); !slices.Equal(l, declared(&p, i, s)) {
			t.Fatalf("Declared(%d, %q) = %v, not %v", i, s, l, declared(&p, i, s))
		}
		for _, object := range []bool{false, true} {
			want := -1
			for k := len(p.Classes) - 1; k >= 0; k-- {
				if c := p.Classes[k]; c.Owner == i && c.Name == s && object == (c.Kind == api.IsObject) {
					want = k
				}
			}
			if k := symbols.FindClass(p, i, s, object); k != want {
				t.Fatalf("FindClass(%d, %q, %v) = %d, not %d", i, s, object, k, want)
			}
		}
	}
}

// checkRight checks what is said of right programs.
func checkRight(t *testing.T, p api.Program) {
	t.Helper()
	full := map[string]bool{}
	for i, c := range p.Classes {
		if symbols.Inside(p, i, i) || slices.Contains(symbols.Ancestors(p, i), i) {
			t.Fatalf("class %d is inside of itself, or its own ancestor", i)
		}
		for _, k := range symbols.Ancestors(p, i) {
			for _, j := range symbols.Ancestors(p, k) {
				if !slices.Contains(symbols.Ancestors(p, i), j) {
					t.Fatalf("%d has the ancestor %d, this %d, but %d not", i, k, j, i)
				}
			}
		}
		for k := range p.Classes {
			for j := range p.Classes {
				if symbols.Inside(p, i, k) && symbols.Inside(p, k, j) && !symbols.Inside(p, i, j) {
					t.Fatalf("%d is inside of %d, this of %d, but %d not", i, k, j, i)
				}
			}
		}
		for _, u := range c.Parents {
			if u.Kind == api.TClass && !slices.Contains(symbols.Children(p, u.Sym), i) {
				t.Fatalf("%d is no child of %d", i, u.Sym)
			}
		}
		if k := symbols.FindClass(p, c.Owner, c.Name, c.Kind == api.IsObject); k != i {
			t.Fatalf("class %d is not found, but %d", i, k)
		}
		name, code := symbols.FullName(p, i)
		if code != api.OK || full[name] {
			t.Fatalf("FullName(%d) = %q, %v", i, name, code)
		}
		full[name] = true
	}
}

// withSynthetic returns a program in which all flags Synthetic are set or taken
// away.
func withSynthetic(p api.Program, set bool) api.Program {
	q := copied(p)
	for _, f := range placesOf(&q).flags {
		*f &^= api.Synthetic
		if set {
			*f |= api.Synthetic
		}
	}
	return q
}

// checkProgram checks Check and Text of any program.
func checkProgram(t *testing.T, p api.Program) symbols.Fault {
	t.Helper()
	before := copied(p)
	p = copied(p)
	want := first(&p)
	f := symbols.Check(p)
	if f != want || symbols.Check(p) != want {
		t.Fatalf("Check = %v, not %v (%s): %+v", f, want, partNames[want.Part], p)
	}
	for _, set := range []bool{false, true} {
		if g := symbols.Check(withSynthetic(p, set)); g != f {
			t.Fatalf("%v, but Synthetic %v: %v", f, set, g)
		}
	}
	text, code := symbols.Text(p)
	if code != f.Code || code != api.OK && text != "" || code == api.OK && text != declarations(&p) {
		t.Fatalf("Text = %q, %v; Check %v, %q", text, code, f, declarations(&p))
	}
	if !reflect.DeepEqual(spares(p), spares(before)) {
		t.Fatal("the argument has changed")
	}
	return f
}

// P6.1 to P6.5 at random right programs.
func TestRightPrograms(t *testing.T) {
	classes := 0
	for seed := range int64(1500) {
		p := rightProgram(random(seed))
		if f := checkProgram(t, p); f.Code != api.OK {
			t.Fatalf("seed %d: %v (%s): %+v", seed, f, partNames[f.Part], p)
		}
		checkRight(t, p)
		if seed < 300 {
			checkFunctions(t, p)
		}
		classes += len(p.Classes)
	}
	if classes < 4000 {
		t.Errorf("%d classes", classes)
	}
}

// P6.1 to P6.5 at random changes of right programs.
func TestChangedPrograms(t *testing.T) {
	told := map[symbols.Fault]int{}
	for seed := range int64(12000) {
		c := random(seed)
		p := rightProgram(c)
		if seed%3 == 0 {
			p = copied(sample())
		}
		for range 1 + c.next(4) {
			mutate(c, &p)
		}
		f := checkProgram(t, p)
		told[fault(f.Part, 0, f.Code)]++
		if f.Code == api.OK {
			checkRight(t, p)
		}
		if seed < 1000 {
			checkFunctions(t, p)
		}
	}
	for _, c := range changes() {
		if f := c.want; told[fault(f.Part, 0, f.Code)] < 3 && f.Part != 0 {
			t.Errorf("%s, %v: told %d times", partNames[f.Part], f.Code, told[fault(f.Part, 0, f.Code)])
		}
	}
}

// declarations is the text of a right program, by another way: the lines of
// the classes, between which those of their members are put.
func declarations(p *api.Program) string {
	inside := aroundTable(p)
	var b strings.Builder
	for i, c := range p.Classes {
		name, _ := fullName(p, inside, i)
		b.WriteString([]string{"class ", "trait ", "object "}[c.Kind] + name + " " + decimal(c.Flags))
		for _, k := range c.TParams {
			b.WriteString(" " + []string{"-", "", "+"}[p.TParams[k].Variance+1] + p.TParams[k].Name)
		}
		b.WriteString("\n")
		for _, k := range c.Fields {
			b.WriteString("  field " + p.Fields[k].Name + " " + decimal(p.Fields[k].Flags) + "\n")
		}
		for _, k := range c.Methods {
			b.WriteString("  method " + p.Methods[k].Name + " " + decimal(p.Methods[k].Flags) + " " + decimal(p.Methods[k].Params) + "\n")
		}
		for _, k := range c.Types {
			b.WriteString("  type " + p.Types[k].Name + "\n")
		}
	}
	for _, m := range p.Methods {
		if m.Owner == -1 {
			b.WriteString("method " + m.Name + " " + decimal(m.Flags) + " " + decimal(m.Params) + "\n")
		}
	}
	return b.String()
}

// decimal writes a number that is not below 0.
func decimal(n int) string {
	if n < 10 {
		return string(rune('0' + n))
	}
	return decimal(n/10) + decimal(n%10)
}

// More random programs: go test -fuzz FuzzCheck ./symbols
func FuzzCheck(f *testing.F) {
	for seed := range int64(8) {
		data := make([]byte, 300)
		rand.New(rand.NewSource(seed)).Read(data)
		f.Add(data, byte(seed))
	}
	f.Fuzz(func(t *testing.T, data []byte, count byte) {
		c := fromBytes(data)
		p := rightProgram(c)
		if f := checkProgram(t, p); f.Code != api.OK {
			t.Fatalf("%v: %+v", f, p)
		}
		for range count % 8 {
			mutate(c, &p)
		}
		if f := checkProgram(t, p); f.Code == api.OK {
			checkRight(t, p)
		}
		checkFunctions(t, p)
	})
}
