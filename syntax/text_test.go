package syntax_test

import (
	"math/rand"
	"strings"
	"testing"

	"newel/api"
	"newel/syntax"
)

// P2.2: the text form.
func TestText(t *testing.T) {
	for _, c := range []struct {
		n    syntax.Node
		want string
	}{
		{syntax.Node{}, "(SNone)"},
		{tree(`(XInfix "+" (XInt 1) (XName "x"))`), `(XInfix "+" (XInt 1) (XName "x"))`},
		{syntax.Node{Kind: syntax.STParam, Text: "A", Num: -1, At: 9, Kids: []syntax.Node{{At: 3}, {}}}, `(STParam "A" -1 (SNone) (SNone))`},
		{syntax.Node{Kind: syntax.XLong, Num: 1<<63 - 1}, "(XLong 9223372036854775807)"},
		{syntax.Node{Kind: syntax.XString, Text: "\\ \" \n \t \r \x00 \x1f \x7f \x80 \xff '$~{}é"}, `(XString "\\ \" \n \t \x0d \x00 \x1f \x7f \x80 \xff '$~{}\xc3\xa9")`},
	} {
		if s, e := syntax.Text(c.n); s != c.want || e != api.OK {
			t.Errorf("Text = %s, %v; want %s", s, e, c.want)
		}
	}
	for _, form := range right {
		if s, e := syntax.Text(tree(form)); s != form || e != api.OK {
			t.Errorf("Text of %s = %s, %v", form, s, e)
		}
	}
}

// P2.2: the Code of Check, and a text form that is too long.
func TestTextErrors(t *testing.T) {
	for _, c := range []struct {
		n    syntax.Node
		want api.Errno
	}{
		{chain(65), api.ErrDepth}, {wide(20001), api.ErrLimit}, {ring(2), api.ErrDepth}, {node(-1), api.ErrKind}, {tree(`(XQuote (XName "1"))`), api.ErrName},
		{tree("(XQuote (XInt -1))"), api.ErrRange}, {tree(`(XThis "a")`), api.ErrInvalid}, {tree("(XQuote)"), api.ErrForm},
	} {
		if s, e := syntax.Text(c.n); s != "" || e != c.want {
			t.Errorf("Text = %d bytes, %v; want %v", len(s), e, c.want)
		}
	}
	n := strings36(0)
	if s, e := syntax.Text(n); len(s) != 4*api.MaxText || e != api.OK {
		t.Errorf("a long form: %d bytes, %v", len(s), e)
	}
	if s, e := syntax.Text(strings36(1)); s != "" || e != api.ErrLimit {
		t.Errorf("a form that is too long: %d bytes, %v", len(s), e)
	}
	many := node(syntax.XBlock)
	for range 200 {
		many.Kids = append(many.Kids, node(syntax.XBlock))
		for range 90 {
			last := &many.Kids[len(many.Kids)-1]
			last.Kids = append(last.Kids, syntax.Node{Kind: syntax.XString, Text: n.Kids[0].Text})
		}
	}
	if s, e := syntax.Text(many); s != "" || e != api.ErrLimit {
		t.Errorf("many long texts: %d bytes, %v", len(s), e)
	}
}

// strings36 is a tree of texts whose form has 4 * api.MaxText bytes and more.
func strings36(more int) syntax.Node {
	n := node(syntax.XBlock)
	left := 4*api.MaxText + more - len("(XBlock)")
	for left > 0 {
		size := min(left, 60000) - len(` (XString "")`)
		n.Kids = append(n.Kids, syntax.Node{Kind: syntax.XString, Text: strings.Repeat("a", size)})
		left -= size + len(` (XString "")`)
	}
	return n
}

// P2.2: Read of right text forms, with offsets.
func TestRead(t *testing.T) {
	for _, form := range right {
		n, f := syntax.Read(form)
		if f != (api.Fault{}) || !syntax.Equal(n, tree(form)) {
			t.Errorf("Read(%s) = %v, %v", form, n, f)
		}
		checkOffsets(t, form, n)
	}
	n, f := syntax.Read(`(XString "\\\"\n\t\x00\x0d\x1f\x7f\x80\xff a'")`)
	if n.Text != "\\\"\n\t\x00\r\x1f\x7f\x80\xff a'" || f != (api.Fault{}) {
		t.Errorf("escapes: %q, %v", n.Text, f)
	}
	long, _ := syntax.Text(strings36(0))
	if n, f := syntax.Read(long); f != (api.Fault{}) || !syntax.Equal(n, strings36(0)) {
		t.Errorf("a long form: %v", f)
	}
}

// checkOffsets checks that At is the offset of each bracket, in order.
func checkOffsets(t *testing.T, form string, n syntax.Node) {
	last := -1
	var visit func(n syntax.Node)
	visit = func(n syntax.Node) {
		if n.At <= last || !strings.HasPrefix(form[n.At:], "("+syntax.Name(n.Kind)) {
			t.Fatalf("%s: a node is at %d", form, n.At)
		}
		last = n.At
		for _, k := range n.Kids {
			visit(k)
		}
	}
	visit(n)
}

// P2.2: faults of the syntax.
func TestReadSyntax(t *testing.T) {
	for _, c := range []struct {
		form string
		at   int
	}{
		{"", 0}, {" ", 0}, {"x", 0}, {" (SNone)", 0}, {")", 0}, {"SNone", 0},
		{"(SNone) ", 7}, {"(SNone))", 7}, {"(SNone)(SNone)", 7}, {"(SNone)\n", 7},
		{"(", 1}, {"()", 1}, {"( SNone)", 1}, {"(snone)", 1}, {"(SNon)", 1}, {"(SNonex)", 1}, {"(Kinds)", 1}, {"(1)", 1}, {"(SFo", 1}, {"((SNone))", 1},
		{"(XQuote (XFoo))", 9}, {"(XQuote (Xx", 9},
		{"(S", 2}, {"(SNon", 5}, {"(SNone", 6}, {"(XFor", 5}, {"(SParam", 7}, {"(SNone1)", 6}, {"(SNone_)", 6}, {"(SNone\n)", 6}, {`(XName"a")`, 6}, {"(XInt1)", 5}, {"(XInt(XInt))", 5},
		{"(SNone )", 7}, {"(SNone  (SNone))", 7}, {"(XInt x)", 6}, {"(XInt +1)", 6}, {"(XInt \n1)", 6}, {"(SNone ", 7},
		{`(XName "")`, 7}, {`(XName "" 1)`, 7}, {`(XName "a"b)`, 10}, {`(XName "a""b")`, 10}, {`(XName "a" "b")`, 11}, {`(XName "a"  "b")`, 11},
		{`(XName 1 "a")`, 9}, {`(XName (XInt) "a")`, 14}, {"(XName (XInt) 1)", 14}, {"(XInt 1 2)", 8}, {"(XInt 1-2)", 7}, {"(XInt 12x)", 8}, {"(XInt 1.)", 7},
		{`(XName "a`, 9}, {`(XName "`, 8}, {`(XName "a\`, 10}, {`(XName "a\x`, 11}, {`(XName "a\x0`, 12}, {`(XName "a\x7`, 12}, {`(XName "a\xf`, 12}, {`(XName "a\x00`, 13},
		{`(XName "a\a")`, 7}, {`(XName "a\'")`, 7}, {`(XName "a\$")`, 7}, {`(XName "a\N")`, 7}, {`(XName "\x2`, 7}, {`(XName "\x4`, 7}, {`(XName "\x6`, 7}, {`(XName "\x41")`, 7}, {`(XName "\x20")`, 7}, {`(XName "\x7e")`, 7},
		{`(XName "\x0a")`, 7}, {`(XName "\x09")`, 7}, {`(XName "\x5c")`, 7}, {`(XName "\x22")`, 7}, {`(XName "\x0A")`, 7}, {`(XName "\xFf")`, 7}, {`(XName "\xg0")`, 7}, {`(XName "\x0g")`, 7}, {`(XName "\x0")`, 7}, {`(XName "\x")`, 7}, {`(XName "\X00")`, 7},
		{"(XName \"a\nb\")", 7}, {"(XName \"a\tb\")", 7}, {"(XName \"a\x00\")", 7}, {"(XName \"a\x7f\")", 7}, {"(XName \"a\x80\")", 7}, {"(XName \"é\")", 7}, {"(XName \"a\n", 7},
		{"(XInt 0)", 6}, {"(XInt -0)", 6}, {"(XInt 00)", 6}, {"(XInt 01)", 6}, {"(XInt -01)", 6}, {"(XInt 0", 6}, {"(XInt 0x1)", 6}, {"(XInt -)", 6}, {"(XInt --1)", 6}, {"(XInt - 1)", 6},
		{"(XInt 9223372036854775808)", 6}, {"(XInt -9223372036854775809)", 6}, {"(XInt 99999999999999999999", 6}, {`(XName "a" 0)`, 11},
		{"(XInt 1", 7}, {"(XInt -", 7}, {"(XInt -1", 8}, {"(XInt 1 ", 8}, {"(XQuote (XInt)", 14}, {"(XQuote (XInt) ", 15},
		{`(XName "1"`, 10}, {"(XQuote (XInt -1) (XFoo))", 19}, // what Check says comes behind
	} {
		if n, f := syntax.Read(c.form); f != fault(c.at, api.ErrSyntax) || !syntax.Equal(n, syntax.Node{}) || n.At != 0 {
			t.Errorf("Read(%q) = %v, %v; want %d", c.form, n, f, c.at)
		}
	}
}

// P2.2: the length, the nesting, and what Check says.
func TestReadFaults(t *testing.T) {
	deep := strings.Repeat("(XQuote ", 64)
	large, _ := syntax.Text(wide(20000))
	for _, c := range []struct {
		name, form string
		want       api.Fault
	}{
		{"too long", strings.Repeat("x", 4*api.MaxText+1), fault(0, api.ErrLimit)},
		{"not too long", strings.Repeat("x", 4*api.MaxText), fault(0, api.ErrSyntax)},
		{"64 levels", deep[8:] + "(XUnit)" + strings.Repeat(")", 63), api.Fault{}},
		{"65 levels", deep + "(XUnit)" + strings.Repeat(")", 64), fault(512, api.ErrDepth)},
		{"66 levels", deep + "(XQuote (XUnit))" + strings.Repeat(")", 64), fault(512, api.ErrDepth)},
		{"32000 levels", strings.Repeat("(XQuote ", 32000), fault(256000, api.ErrSyntax)},
		{"65 levels, and then a fault of syntax", deep + "(XUnit)" + strings.Repeat(")", 64) + "x", fault(583, api.ErrSyntax)},
		{"65 levels, and a wrong node", `(XBlock (XInt -1) ` + deep[8:] + "(XUnit)" + strings.Repeat(")", 64), fault(18+504, api.ErrDepth)},
		{"20000 nodes", large, api.Fault{}},
		{"20001 nodes", large[:len(large)-1] + " (XUnit))", fault(0, api.ErrLimit)},
		{"a kind", "(XQuote (XQuote))", fault(8, api.ErrForm)},
		{"a name", `(XQuote (XName "1"))`, fault(8, api.ErrName)},
		{"no name", "(XName)", fault(0, api.ErrName)},
		{"a number", "(XBlock (XInt 1) (XInt 2147483648))", fault(17, api.ErrRange)},
		{"the least number", "(XLong -9223372036854775808)", fault(0, api.ErrRange)},
		{"a text", `(XBlock (XBlock (XUnit)) (XThis "a"))`, fault(25, api.ErrInvalid)},
		{"kids", `(SVal "a" (SMods) (SNone))`, fault(0, api.ErrForm)},
	} {
		if n, f := syntax.Read(c.form); f != c.want || f.Code != api.OK && !syntax.Equal(n, syntax.Node{}) {
			t.Errorf("%s: %v; want %v", c.name, f, c.want)
		}
	}
}

// P2.2, P2.4: Read of Text is an equal tree, Text of Read is the text, and of
// each part of the text something is missing.
func TestRandomForms(t *testing.T) {
	r := rand.New(rand.NewSource(4))
	m := maker{r}
	seen := map[int]bool{}
	count := 0
	for range 2000 {
		form := m.unit(6)
		n, f := syntax.Read(form)
		if f.Code == api.ErrLimit {
			continue
		}
		s, e := syntax.Text(n)
		if f != (api.Fault{}) || e != api.OK || s != form {
			t.Fatalf("Read(%s): %v, Text: %s, %v", form, f, s, e)
		}
		again, f := syntax.Read(s)
		if f != (api.Fault{}) || !syntax.Equal(n, again) {
			t.Fatalf("Read of Text of %s: %v", form, f)
		}
		checkOffsets(t, form, n)
		end := r.Intn(len(form))
		if _, f := syntax.Read(form[:end]); f != fault(end, api.ErrSyntax) {
			t.Fatalf("Read(%q) = %v", form[:end], f)
		}
		for kind := range names {
			seen[kind] = seen[kind] || syntax.Count(n, kind) > 0
		}
		count++
	}
	if count < 1000 {
		t.Errorf("%d trees", count)
	}
	for kind, name := range names {
		if !seen[kind] {
			t.Errorf("no node of the kind %s", name)
		}
	}
}

// P2.2, P1: texts that were changed at one place are no other text forms.
func TestChangedForms(t *testing.T) {
	r := rand.New(rand.NewSource(5))
	m := maker{r}
	for range 30000 {
		form := []byte(m.expression(3))
		at := r.Intn(len(form))
		switch r.Intn(3) {
		case 0:
			form[at] = "() \"\\x0a9-SX\n\xff"[r.Intn(14)]
		case 1:
			form = append(form[:at], form[at+1:]...)
		case 2:
			form = append(form[:at+1], form[at:]...)
		}
		checkForm(t, string(form))
	}
}

func checkForm(t *testing.T, form string) {
	n, f := syntax.Read(form)
	if f.Code != api.OK {
		if !syntax.Equal(n, syntax.Node{}) || f.At < 0 || f.At > len(form) {
			t.Fatalf("Read(%q) = %v, %v", form, n, f)
		}
		return
	}
	if s, e := syntax.Text(n); s != form || e != api.OK {
		t.Fatalf("Text of Read of %q = %q, %v", form, s, e)
	}
	if f := syntax.Check(n); f != (api.Fault{}) {
		t.Fatalf("Check of Read of %q: %v", form, f)
	}
}

// P1: a call does not panic.
func FuzzRead(f *testing.F) {
	for _, form := range right {
		f.Add(form)
	}
	f.Fuzz(func(t *testing.T, form string) {
		checkForm(t, form)
	})
}
