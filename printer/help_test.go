package printer_test

import (
	"strings"
	"testing"

	"newel/api"
	"newel/parser"
	"newel/printer"
	"newel/syntax"
	"newel/tokens"
)

var styleNames = [printer.Styles]string{"braces", "indented"}

// parse has the functions that read texts, by what they read.
var parse = map[string]func(string) (syntax.Node, api.Fault){
	"unit": parser.Parse, "expr": parser.Expr, "type": parser.Type, "pattern": parser.Pattern,
}

// kindOf tells how a text of a tree is read.
func kindOf(n syntax.Node) string {
	return map[byte]string{'S': "unit", 'X': "expr", 'T': "type", 'P': "pattern"}[syntax.Name(n.Kind)[0]]
}

func form(n syntax.Node) string {
	s, _ := syntax.Text(n)
	return s
}

func tree(t *testing.T, text string) syntax.Node {
	t.Helper()
	n, f := syntax.Read(text)
	if f.Code != api.OK {
		t.Fatalf("Read(%q): %v", text, f)
	}
	return n
}

// checkPrinted checks the texts of a printable tree: what the definitions and
// P4.1, P4.3 and P4.4 say of them.
func checkPrinted(t *testing.T, n syntax.Node) {
	t.Helper()
	for style := range printer.Styles {
		text, code := printer.Print(n, style)
		if code != api.OK {
			t.Fatalf("%s: %v: %s", styleNames[style], code, form(n))
		}
		checkText(t, n, style, text)
	}
	line, code := printer.Line(n)
	switch {
	case n.Kind == syntax.SUnit:
		if line != "" || code != api.ErrKind {
			t.Fatalf("Line: %q, %v", line, code)
		}
	case code != api.OK || strings.Contains(line, "\n"):
		t.Fatalf("Line: %q, %v: %s", line, code, form(n))
	default:
		checkRead(t, n, line)
	}
}

// checkRead checks that a text has a tree, and returns the one that is read.
func checkRead(t *testing.T, n syntax.Node, text string) syntax.Node {
	t.Helper()
	again, f := parse[kindOf(n)](text)
	if f.Code != api.OK || !syntax.Equal(n, again) {
		t.Fatalf("%v\n%s\n%s\n%s", f, text, form(n), form(again))
	}
	return again
}

func checkText(t *testing.T, n syntax.Node, style int, text string) {
	t.Helper()
	again := checkRead(t, n, text)
	if twice, code := printer.Print(again, style); twice != text || code != api.OK {
		t.Fatalf("%s, %v: another text of an equal tree:\n%s\n%s", styleNames[style], code, text, twice)
	}
	if strings.Contains(text, " \n") || strings.Contains(text, "\t") || strings.Contains(text, "\n") && !strings.HasSuffix(text, "\n") {
		t.Fatalf("line ends of %q", text)
	}
	indents, want := 0, 0
	list, _ := tokens.Scan(text)
	for _, x := range list {
		if x.Kind == tokens.Indent {
			indents++
		}
	}
	if style == printer.Indented {
		want = checkBlocks(t, text, again)
	}
	if indents != want {
		t.Fatalf("%s: %d indentations, want %d:\n%s\n%s", styleNames[style], indents, want, text, form(n))
	}
}

// checkBlocks checks that the statements of the blocks that stand outside of
// brackets begin in lines of their own, and returns how many must be written
// by indentation.
func checkBlocks(t *testing.T, text string, n syntax.Node) int {
	t.Helper()
	var block []syntax.Node
	count := 1
	switch n.Kind {
	case syntax.SUnit:
		block, count = n.Kids, 0
	case syntax.SClass:
		block = n.Kids[4].Kids
	case syntax.SExtension:
		block = n.Kids[2:]
		if len(block) == 1 {
			return checkBlocks(t, text, block[0])
		}
	case syntax.SDef, syntax.SVal, syntax.SGiven:
		if value := n.Kids[len(n.Kids)-1]; value.Kind == syntax.XBlock {
			block = value.Kids
		}
	}
	if len(block) == 0 {
		return 0
	}
	for _, kid := range block {
		begin := strings.LastIndexByte(text[:kid.At], '\n') + 1
		if strings.TrimLeft(text[begin:kid.At], " ") != "" {
			t.Fatalf("%d is not the begin of a line:\n%s", kid.At, text)
		}
		count += checkBlocks(t, text, kid)
	}
	return count
}

// checkFormats checks that a text of a unit is formatted in both styles, and
// that nothing changes if this is done again.
func checkFormats(t *testing.T, text string) {
	t.Helper()
	n, _ := parser.Parse(text)
	var out [printer.Styles]string
	for style := range out {
		var f api.Fault
		out[style], f = printer.Format(text, style)
		want, code := printer.Print(n, style)
		if f != (api.Fault{Code: code}) || out[style] != want {
			t.Fatalf("Format(%q, %s): %v", text, styleNames[style], f)
		}
	}
	for from := range out {
		for to := range out {
			if again, f := printer.Format(out[from], to); f.Code != api.OK || again != out[to] {
				t.Fatalf("%s to %s: %v\n%s\n%s", styleNames[from], styleNames[to], f, again, out[to])
			}
		}
	}
}
