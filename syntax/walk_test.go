package syntax_test

import (
	"math/rand"
	"slices"
	"strings"
	"testing"

	"newel/api"
	"newel/syntax"
)

// P2.3: names of kinds.
func TestName(t *testing.T) {
	if len(names) != syntax.Kinds {
		t.Fatalf("%d names of %d kinds", len(names), syntax.Kinds)
	}
	for kind, name := range names {
		if syntax.Name(kind) != name {
			t.Errorf("Name(%d) = %q; want %q", kind, syntax.Name(kind), name)
		}
	}
	for _, kind := range []int{-1, syntax.Kinds, 1 << 40, -1 << 63} {
		if syntax.Name(kind) != "" {
			t.Errorf("Name(%d) = %q", kind, syntax.Name(kind))
		}
	}
	for kind, want := range map[int]string{syntax.SNone: "SNone", syntax.TName: "TName", syntax.XName: "XName", syntax.XFor: "XFor", syntax.SLambdaParam: "SLambdaParam", syntax.PAlt: "PAlt"} {
		if syntax.Name(kind) != want {
			t.Errorf("Name(%d) = %q; want %q", kind, syntax.Name(kind), want)
		}
	}
}

// P2.3: Size and Depth, of any nodes.
func TestSizeAndDepth(t *testing.T) {
	for _, c := range []struct {
		name        string
		n           syntax.Node
		size, depth int
	}{
		{"no kids", tree("(XThis)"), 1, 1}, {"kids", tree(`(XInfix "+" (XInt 1) (XName "x"))`), 3, 2},
		{"kids of kids", tree("(XBlock (XQuote (XQuote (XThis))) (XBlock) (XQuote (XThis)))"), 7, 4},
		{"wrong nodes", tree("(-1 (99 (SNone (SNone))))"), 4, 4}, {"a node of no kind", syntax.Node{}, 1, 1},
		{"64 levels", chain(64), 64, 64}, {"65 levels", chain(65), 65, 65}, {"100 levels", chain(100), 100, 65},
		{"20000 nodes", wide(20000), 20000, 3}, {"20001 nodes", wide(20001), 20001, 3}, {"30000 nodes", wide(30000), 20001, 3},
		{"many nodes, and then deep", node(syntax.XBlock, wide(30000), chain(40)), 20001, 41},
		{"60000 levels", chain(60000), 20001, 65},
		{"a ring", ring(1), 20001, 65}, {"a ring of three", ring(3), 20001, 65}, {"50 doubled levels", doubled(50), 20001, 50}, {"many kids with one list", node(syntax.XBlock, slices.Repeat([]syntax.Node{node(syntax.XBlock, make([]syntax.Node, 30000)...)}, 30000)...), 20001, 3}, {"14 doubled levels", doubled(14), 1<<14 - 1, 14},
	} {
		if size, depth := syntax.Size(c.n), syntax.Depth(c.n); size != c.size || depth != c.depth {
			t.Errorf("%s: %d nodes, %d levels; want %d, %d", c.name, size, depth, c.size, c.depth)
		}
	}
}

// P2.3: Equal looks at everything but At.
func TestEqual(t *testing.T) {
	same := [][2]syntax.Node{
		{{}, {}}, {{At: 1}, {At: 2}}, {{Kids: []syntax.Node{}}, {}},
		{tree(`(-1 "a" 7 (XInt 1) (99))`), tree(`(-1 "a" 7 (XInt 1) (99))`)},
		{{Kids: []syntax.Node{{At: 1, Kids: []syntax.Node{{At: 2}}}}}, {Kids: []syntax.Node{{At: 3, Kids: []syntax.Node{{At: 4}}}}}},
		{chain(60000), chain(60000)}, {wide(40000), wide(40000)}, {doubled(60), doubled(60)}, {ring(1), ring(1)}, {ring(3), ring(3)},
	}
	for i, c := range same {
		if !syntax.Equal(c[0], c[1]) || !syntax.Equal(c[1], c[0]) || !syntax.Equal(c[0], c[0]) {
			t.Errorf("pair %d is different", i)
		}
	}
	other := doubled(59)
	other.Kids[0].Kids[1].Kids[1].Text = "x"
	different := [][2]syntax.Node{
		{{}, {Kind: 1}}, {{}, {Text: "a"}}, {{Text: "b"}, {Text: "a"}}, {{}, {Num: 1}}, {{}, {Kids: []syntax.Node{{}}}},
		{tree("(XBlock (XInt 1) (XInt 2))"), tree("(XBlock (XInt 2) (XInt 1))")}, {tree("(XBlock (XInt 1) (XInt 2))"), tree("(XBlock (XInt 1) (XInt 3))")},
		{tree("(XBlock (XBlock (XInt 1)) (XBlock))"), tree("(XBlock (XBlock) (XBlock (XInt 1)))")}, {tree("(XBlock (XInt 1))"), tree("(XBlock (XInt 1) (XInt 1))")},
		{chain(60000), chain(59999)}, {wide(40000), wide(39999)}, {doubled(60), doubled(59)}, {doubled(59), other}, {ring(2), ring(3)}, {ring(1), chain(100)},
	}
	for i, c := range different {
		if syntax.Equal(c[0], c[1]) || syntax.Equal(c[1], c[0]) {
			t.Errorf("pair %d is equal", i)
		}
	}
}

// P2.3: Count.
func TestCount(t *testing.T) {
	n := tree(`(XBlock (XInt 1) (XBlock (XName "a") (XInt 2)) (-7 (XInt)))`)
	for kind, want := range map[int]int{syntax.XInt: 3, syntax.XBlock: 2, syntax.XName: 1, syntax.SNone: 0, -7: 1, -8: 0, syntax.Kinds: 0} {
		if got := syntax.Count(n, kind); got != want {
			t.Errorf("Count(%d) = %d; want %d", kind, got, want)
		}
	}
	for i, c := range []struct {
		n    syntax.Node
		want int
	}{{wide(20000), 101}, {wide(20001), 0}, {ring(1), 0}, {ring(2), 0}, {doubled(14), 1<<13 - 1}, {doubled(50), 0}} {
		if got := syntax.Count(c.n, syntax.XBlock); got != c.want {
			t.Errorf("tree %d: %d; want %d", i, got, c.want)
		}
	}
}

// P2.3: Names.
func TestNames(t *testing.T) {
	n := tree(`(XBlock (XName "b") (TName "B") (XName "a") (XName "b") (TName "a") (XSelect "c" (XName "+")) (PBind "d" (PTyped "e" (TName "_f"))) (TSelect "g" (XThis)) (XName) (XString "h"))`)
	if got := syntax.Names(n); !slices.Equal(got, []string{"", "+", "B", "_f", "a", "b"}) {
		t.Errorf("Names = %q", got)
	}
	if got := syntax.Names(tree("(XThis)")); len(got) != 0 {
		t.Errorf("Names = %q", got)
	}
	n = wide(19998)
	n.Kids = append(n.Kids, tree(`(XName "a")`), tree(`(XName "b")`))
	if got := syntax.Names(n); !slices.Equal(got, []string{"a", "b"}) {
		t.Errorf("Names of 20000 nodes = %q", got)
	}
	n.Kids = append(n.Kids, tree(`(XName "c")`))
	if got := syntax.Names(n); got != nil {
		t.Errorf("Names of 20001 nodes = %q", got)
	}
	if got := syntax.Names(ring(2)); got != nil {
		t.Errorf("Names of a ring = %q", got)
	}
}

// P2.3: Rename.
func TestRename(t *testing.T) {
	form := `(XBlock (XName "a") (TName "a") (XName "b") (XSelect "a" (XName "a")) (PBind "a" (PStable "a")) (XString "a") (TApply (TName "A") (TName "a")))`
	want := `(XBlock (XName "c") (TName "c") (XName "b") (XSelect "a" (XName "c")) (PBind "a" (PStable "a")) (XString "a") (TApply (TName "A") (TName "c")))`
	n := tree(form)
	n.At, n.Kids[0].At, n.Kids[1].At = 7, 8, 9
	got := syntax.Rename(n, "a", "c")
	if !syntax.Equal(got, tree(want)) || !syntax.Equal(n, tree(form)) {
		t.Errorf("Rename = %v", got)
	}
	if got.At != 7 || got.Kids[0].At != 8 || got.Kids[1].At != 9 {
		t.Errorf("Rename changed offsets: %v", got)
	}
	for _, c := range [][4]string{
		{`(XName "a")`, "a", "b", `(XName "b")`}, {`(TName "a")`, "a", "b c", `(TName "b c")`}, {`(XName "a")`, "a", "", "(XName)"}, {"(XName)", "", "a", `(XName "a")`},
		{`(XBlock (XName "a") (XName "b"))`, "a", "b", `(XBlock (XName "b") (XName "b"))`}, {`(-1 (XName "a" 3))`, "a", "b", `(-1 (XName "b" 3))`}, {`(XName "ab")`, "a", "b", `(XName "ab")`},
	} {
		if got := syntax.Rename(tree(c[0]), c[1], c[2]); !syntax.Equal(got, tree(c[3])) {
			t.Errorf("Rename(%s) = %v", c[0], got)
		}
	}
}

// P2.3: beyond the limits Rename changes nothing.
func TestRenameLarge(t *testing.T) {
	n := wide(19999)
	n.Kids = append(n.Kids, tree(`(XName "a")`))
	got := syntax.Rename(n, "a", "b")
	if last := got.Kids[len(got.Kids)-1]; last.Text != "b" || syntax.Size(got) != 20000 {
		t.Errorf("Rename in 20000 nodes: %v", last)
	}
	n.Kids = append(n.Kids, node(syntax.XUnit))
	was := deepCopy(n)
	got = syntax.Rename(n, "a", "b")
	if !syntax.Equal(got, n) {
		t.Error("Rename changed 20001 nodes")
	}
	spoil(got)
	if !syntax.Equal(n, was) {
		t.Error("Rename of 20001 nodes shares memory")
	}
	for i, n := range []syntax.Node{ring(1), ring(3), doubled(60)} {
		got := syntax.Rename(n, "a", "b")
		if !syntax.Equal(got, n) || &got.Kids[0] == &n.Kids[0] {
			t.Errorf("tree %d: %v, %v", i, syntax.Size(got), syntax.Depth(got))
		}
	}
}

// P1, P2: results share no memory with arguments, nor within themselves, and
// arguments stay.
func TestMemory(t *testing.T) {
	n := doubled(6)
	got := syntax.Rename(n, "x", "y")
	got.Kids[0].Kids[0].Text = "changed"
	if got.Kids[1].Kids[0].Text != "" || !syntax.Equal(n, doubled(6)) {
		t.Error("lists of one result share memory")
	}
	list := make([]syntax.Node, 1, 9)
	list[0] = tree(`(XName "a")`)
	got = syntax.Rename(node(syntax.XBlock, list[:1]...), "a", "b")
	got.Kids = append(got.Kids, node(syntax.XInt))
	if list[:9][1].Kind != syntax.SNone || list[0].Text != "a" {
		t.Error("memory behind a list's end was changed")
	}
	a, b := syntax.Names(tree(`(XName "a")`)), syntax.Names(tree(`(XName "a")`))
	a[0] = "b"
	if b[0] != "a" {
		t.Error("results of Names share memory")
	}
}

// P2.4: consequences, for random trees.
func TestProperties(t *testing.T) {
	m := maker{rand.New(rand.NewSource(6))}
	for range 2000 {
		n, f := syntax.Read(m.unit(5))
		if f.Code == api.ErrLimit {
			continue
		}
		was, size, depth := deepCopy(n), 1, 0
		for _, k := range n.Kids {
			size += syntax.Size(k)
			depth = max(depth, syntax.Depth(k))
		}
		if syntax.Size(n) != size || syntax.Depth(n) != depth+1 {
			t.Fatalf("%d nodes, %d levels; want %d, %d", syntax.Size(n), syntax.Depth(n), size, depth+1)
		}
		total := 0
		for kind := range names {
			total += syntax.Count(n, kind)
		}
		if total != size {
			t.Fatalf("%d nodes of all kinds; want %d", total, size)
		}
		checkRenaming(t, n)
		if !syntax.Equal(n, was) || !syntax.Equal(was, n) || !syntax.Equal(n, n) {
			t.Fatal("a tree was changed")
		}
	}
}

// checkRenaming checks that renaming there and back is nothing.
func checkRenaming(t *testing.T, n syntax.Node) {
	was := deepCopy(n)
	for _, from := range []string{"a", "+", "_x"} {
		there := syntax.Rename(n, from, "fresh")
		if found := slices.Contains(syntax.Names(n), from); found == syntax.Equal(there, n) || found != slices.Contains(syntax.Names(there), "fresh") {
			t.Fatalf("Rename of %q: %q, %q", from, syntax.Names(n), syntax.Names(there))
		}
		if slices.Contains(syntax.Names(there), from) {
			t.Fatalf("Rename left %q", from)
		}
		back := syntax.Rename(there, "fresh", from)
		if !syntax.Equal(back, n) {
			t.Fatalf("renaming %q there and back is another tree", from)
		}
		spoil(there)
		spoil(back)
		if !syntax.Equal(n, was) {
			t.Fatal("Rename shares memory")
		}
	}
}

// P2.3: Names are sorted by bytes, each once.
func TestRandomNames(t *testing.T) {
	m := maker{rand.New(rand.NewSource(7))}
	for range 500 {
		form := m.expression(5)
		n, f := syntax.Read(form)
		if f != (api.Fault{}) {
			t.Fatal(form, f)
		}
		got := syntax.Names(n)
		if !slices.IsSorted(got) || len(slices.Compact(slices.Clone(got))) != len(got) {
			t.Fatalf("%s: %q", form, got)
		}
		for _, name := range got {
			if !strings.Contains(form, `(XName "`+name+`")`) && !strings.Contains(form, `(TName "`+name+`")`) {
				t.Fatalf("%s: %q", form, name)
			}
		}
	}
}
