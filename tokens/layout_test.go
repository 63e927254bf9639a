package tokens_test

import (
	"slices"
	"strings"
	"testing"

	"newel/api"
	"newel/tokens"
)

// P1.2: where layout is put.
func TestLayout(t *testing.T) {
	for _, c := range []struct{ text, want string }{
		{"", "STOP"},
		{"a b", "a b STOP"},
		{"def f =\n  a\n  b\ng", "def f = IN a NL b OUT NL g STOP"},
		{"def f =\n  a", "def f = IN a OUT STOP"},
		{"a\nb\n\nc", "a NL b NL c STOP"},
		{"  a\n  b", "a NL b STOP"},
		// openers
		{"a:\n b\nc", "a : IN b OUT NL c STOP"},
		{"a =>\n b\nc", "a => IN b OUT NL c STOP"},
		{"a <-\n b\nc", "a <- IN b OUT NL c STOP"},
		{"a ::\n b\nc", "a :: b NL c STOP"},
		{"a ,\n b\nc", "a , b NL c STOP"},
		{"def\n b\nc", "def b NL c STOP"},
		// the same or a smaller column opens nothing
		{"a =\nb\nc", "a = b NL c STOP"},
		{"a =\n  b =\n  c", "a = IN b = c OUT STOP"},
		{"a =\n  b =\nc", "a = IN b = OUT c STOP"},
		// several Outdents, and Newlines behind them
		{"a =\n b =\n  c\nd", "a = IN b = IN c OUT OUT NL d STOP"},
		{"a =\n b =\n  c\n d", "a = IN b = IN c OUT NL d OUT STOP"},
		{"a =\n b\nelse c", "a = IN b OUT else c STOP"},
		{"a =\n b +\nc", "a = IN b + OUT c STOP"},
		// a deeper line without an opener is a line of the same block
		{"a\n  b\n c", "a NL b NL c STOP"},
		{"a =\n  b\n    c\n  d", "a = IN b NL c NL d OUT STOP"},
		// braces and splices
		{"a {\n  b\n c\n}", "a { b NL c } STOP"},
		{"a {\n  b =\n    c\n}\nd", "a { b = IN c OUT } NL d STOP"},
		{"a {\n  b =\n    c }", "a { b = IN c OUT } STOP"},
		{"  a { b =\n c }", "a { b = c } STOP"},
		{"  a { b =\n   c }", "a { b = IN c OUT } STOP"},
		{"a {\n    b { c =\n  d } }", "a { b { c = d } } STOP"},
		{"a {\n    b { c =\n     d } }", "a { b { c = IN d OUT } } STOP"},
		{"a\n b { c =>\n  d\n  e }", "a NL b { c => IN d NL e OUT } STOP"},
		{"a =\n  b { c =>\n   d\n e }", "a = IN b { c => IN d OUT NL e } OUT STOP"},
		{"'{\n a\n b\n}", "'{ a NL b } STOP"},
		{"${\n a\n b\n}", "${ a NL b } STOP"},
		{"s\"x${\n a\n b =\n  c\n}y\"\nz", "s\" x ${ a NL b = IN c OUT } y \" NL z STOP"},
		{"a { b =>\n   }\nc", "a { b => IN OUT } NL c STOP"},
		// nothing in parentheses and square brackets, but in braces in them
		{"(\na =\n b\nc)", "( a = b c ) STOP"},
		{"[\na =\n b\nc]", "[ a = b c ] STOP"},
		{"f(a, {\nb\nc\n})\nd", "f ( a , { b NL c } ) NL d STOP"},
		{"f(x =>\n  a\n  b)", "f ( x => a b ) STOP"},
		{"f {(a\nb) =\n c}", "f { ( a b ) = IN c OUT } STOP"},
		// Ops in front
		{"a\n+ b", "a + b STOP"},
		{"a\n+b", "a NL + b STOP"},
		{"a\n+\nb", "a + b STOP"},
		{"a\n+", "a + STOP"},
		{"a\n++ b", "a ++ b STOP"},
		{"a\n++b", "a NL ++ b STOP"},
		{"a\n+/**/b", "a + b STOP"},
		{"a\n+//\nb", "a + b STOP"},
		// other ends and beginnings of lines
		{"a\n(b)\n[c]", "a NL ( b ) NL [ c ] STOP"},
		{"a\n{ b }", "a NL { b } STOP"},
		{"a\n'{ b }\n${ c }", "a NL '{ b } NL ${ c } STOP"},
		{"a\n@b\n_", "a NL @ b NL _ STOP"},
		{"_\na", "_ NL a STOP"},
		{"@\na", "@ NL a STOP"},
		{"s\"a\"\nt\"b\"\n\"c\"\n'd'\n1\n2L\ne", "s\" a \" NL t\" b \" NL c NL d NL 1 NL 2 NL e STOP"},
		{"a\nval b", "a NL val b STOP"},
		{"a\nif b", "a NL if b STOP"},
	} {
		l, f := tokens.Scan(c.text)
		if got := laidOut(l); got != c.want || f != (api.Fault{}) {
			t.Errorf("Scan(%q) = %s, %v; want %s", c.text, got, f, c.want)
		}
	}
}

// P1.2: each keyword and mark, in front of and behind a line end.
func TestLayoutWords(t *testing.T) {
	const marks = "( ) [ ] { } , . ; @ _ '{ ${ = => <- : <: >:"
	opener := strings.Fields(": = => <- then else do match try catch finally yield return throw")
	finished := strings.Fields("false null return super this true ) ] } @ _")
	continuation := strings.Fields(") ] } , . = => <- : <: >: ; catch do else extends finally match then with yield")
	for _, w := range strings.Fields(marks + " " + keywords) {
		kind := tokens.Mark
		if tokens.Keyword(w) {
			kind = tokens.Key
		}
		word := func(at, line, col int) tokens.Token {
			return tokens.Token{Kind: kind, Text: w, At: at, Line: line, Col: col}
		}
		name := func(at, line, col int) tokens.Token {
			return tokens.Token{Kind: tokens.Name, Text: "n", At: at, Line: line, Col: col}
		}
		wrap := func(l ...tokens.Token) []tokens.Token { // brackets get their other half
			switch w {
			case "(", "[", "{", "'{", "${":
				other := map[string]string{"(": ")", "[": "]"}[w]
				if other == "" {
					other = "}"
				}
				last := l[len(l)-1]
				return append(l, tokens.Token{Kind: tokens.Mark, Text: other, At: last.At + 9, Line: last.Line, Col: last.Col + 9})
			case ")", "]", "}":
				other := map[string]string{")": "(", "]": "[", "}": "{"}[w]
				return append([]tokens.Token{{Kind: tokens.Mark, Text: other}}, l...)
			}
			return l
		}
		count := func(l []tokens.Token, kind int) (n int) {
			for _, t := range l {
				if t.Kind == kind {
					n++
				}
			}
			return n
		}
		inside := w == "(" || w == "[" // nothing is put behind these
		l, f := tokens.Layout(wrap(word(50, 1, 0), name(60, 2, 0)))
		if got, want := count(l, tokens.Newline) == 1, slices.Contains(finished, w) && !inside; got != want || f.Code != api.OK {
			t.Errorf("behind %s: %s %v", w, laidOut(l), f)
		}
		l, f = tokens.Layout(wrap(word(50, 1, 0), name(60, 2, 1)))
		if got, want := count(l, tokens.Indent) == 1, slices.Contains(opener, w); got != want || f.Code != api.OK {
			t.Errorf("behind %s, deeper: %s %v", w, laidOut(l), f)
		}
		l, f = tokens.Layout(wrap(name(40, 1, 0), word(50, 2, 0)))
		if w == ")" || w == "]" {
			continue // in brackets nothing is put anyway
		}
		if got, want := count(l, tokens.Newline) == 0, slices.Contains(continuation, w); got != want || f.Code != api.OK {
			t.Errorf("in front of %s: %s %v", w, laidOut(l), f)
		}
	}
}

// P1.2: the rules apply one behind the other, so that a return, which opens a
// block but may end a statement, has both in front of a deeper line.
func TestLayoutReturn(t *testing.T) {
	for _, c := range []struct{ text, want string }{
		{"return\n  a\nb", "return IN NL a OUT NL b STOP"},
		{"return\na", "return NL a STOP"},
		{"throw\n  a\nb", "throw IN a OUT NL b STOP"},
		{"throw\na", "throw a STOP"},
		{"return\n  + a", "return IN + a OUT STOP"},
	} {
		l, f := tokens.Scan(c.text)
		if got := laidOut(l); got != c.want || f != (api.Fault{}) {
			t.Errorf("Scan(%q) = %s, %v; want %s", c.text, got, f, c.want)
		}
	}
}

// P1.2: offsets, lines and columns of what is put.
func TestLayoutPlaces(t *testing.T) {
	for _, c := range []struct{ text, want string }{
		{"", "0:0:0"},
		{"  ab", "2:0:2 3:1:0"},
		{"a =\n  b\n  c\nd", "0:0:0 2:0:2 6:1:2 6:1:2 10:2:2 10:2:2 12:3:0 12:3:0 12:3:0 13:4:0"},
		{"a =\n b =\n  c", "0:0:0 2:0:2 5:1:1 5:1:1 7:1:3 11:2:2 11:2:2 12:3:0 12:3:0 12:3:0"},
		{"{ a =\n  b }", "0:0:0 2:0:2 4:0:4 8:1:2 8:1:2 10:1:4 10:1:4 11:2:0"},
	} {
		l, f := tokens.Scan(c.text)
		if got := places(l); got != c.want || f != (api.Fault{}) {
			t.Errorf("Scan(%q) = %s, %v; want %s", c.text, got, f, c.want)
		}
		for _, x := range l {
			if x.Kind >= tokens.Newline && x.Text != "" {
				t.Errorf("Scan(%q): %v has a text", c.text, x)
			}
		}
	}
}

// P1.2: faults of the rules; the At is an index but for ErrOrder.
func TestLayoutFaults(t *testing.T) {
	for _, c := range []struct {
		text string
		at   int
		code api.Errno
	}{
		{"  a\n b", 5, api.ErrOrder},
		{"  a\n }", 5, api.ErrSyntax}, // by Raw
		{"  a =\n    b\n c", 13, api.ErrOrder},
		{"  a =\n b", 7, api.ErrOrder},
		{"a =\n    b\n  c", 12, api.ErrOrder},
		{"a =\n    b\n  + c", 12, api.ErrOrder},
		{"a =\n  b =\n      c\n    d", 22, api.ErrOrder},
		{strings.Repeat("{", api.MaxNest) + strings.Repeat("}", api.MaxNest), api.MaxNest - 1, api.ErrDepth},
		{"a " + strings.Repeat("(", api.MaxNest) + strings.Repeat(")", api.MaxNest), api.MaxNest, api.ErrDepth},
		{strings.Repeat("{", api.MaxNest-1) + "a =\n b" + strings.Repeat("}", api.MaxNest-1), api.MaxNest + 1, api.ErrDepth},
	} {
		l, f := tokens.Scan(c.text)
		if l != nil || f != fault(c.at, c.code) {
			t.Errorf("Scan(%q) = %v, %v; want %v", c.text, l, f, fault(c.at, c.code))
		}
	}
	deep := strings.Repeat("{", api.MaxNest-2) + "a =\n b" + strings.Repeat("}", api.MaxNest-2)
	if _, f := tokens.Scan(deep); f != (api.Fault{}) {
		t.Errorf("%d regions: %v", api.MaxNest, f)
	}
}

// marks returns a list of marks in one line.
func marks(texts ...string) []tokens.Token {
	var out []tokens.Token
	for i, s := range texts {
		out = append(out, tokens.Token{Kind: tokens.Mark, Text: s, At: 3 * i, Col: 3 * i})
	}
	return out
}

// P1.2: faults of lists that no text has.
func TestLayoutListFaults(t *testing.T) {
	type list = []tokens.Token
	many := func(n int) list {
		l := make(list, n)
		for i := range l {
			l[i] = tokens.Token{Kind: tokens.Name, Text: "a", At: i, Col: i}
		}
		return l
	}
	lateKind := many(20001)
	lateKind[20000].Kind = tokens.Stop
	for i, c := range []struct {
		l    list
		want api.Fault
	}{
		{list{{Kind: -1}}, fault(0, api.ErrKind)},
		{list{{Kind: tokens.Newline}}, fault(0, api.ErrKind)},
		{list{{}, {Kind: tokens.Stop, At: 1, Col: 1}}, fault(1, api.ErrKind)},
		{list{{}, {Kind: tokens.Kinds}}, fault(1, api.ErrKind)},
		{list{{}, {}, {Kind: tokens.Kinds}}, fault(1, api.ErrOrder)},
		{list{{Line: 1}, {At: 1, Col: 1}}, fault(1, api.ErrOrder)},
		{list{{}, {Col: 1}}, fault(1, api.ErrOrder)},
		{list{{}, {Line: 1}}, fault(1, api.ErrOrder)},
		{list{{}, {At: 1}}, fault(1, api.ErrOrder)},
		{list{{At: 5}, {At: 4, Col: 1}}, fault(1, api.ErrOrder)},
		{list{{Col: 5}, {At: 4, Col: 4}}, fault(1, api.ErrOrder)},
		{list{{Kind: tokens.Part, At: 5}, {At: 4, Col: 4}}, fault(1, api.ErrOrder)},
		{list{{Kind: tokens.Part, Col: 5}, {At: 4, Col: 4}}, fault(1, api.ErrOrder)},
		{list{{Kind: tokens.Part, Line: 1}, {At: 4, Col: 4}}, fault(1, api.ErrOrder)},
		{list{{Kind: tokens.Part}, {}, {}}, fault(2, api.ErrOrder)},
		{many(20001), fault(0, api.ErrLimit)},
		{lateKind, fault(20000, api.ErrKind)},
		{marks(")"), fault(0, api.ErrSyntax)},
		{marks("{", "(", "}"), fault(2, api.ErrSyntax)},
		{marks("{", "]"), fault(1, api.ErrSyntax)},
		{marks("[", ")"), fault(1, api.ErrSyntax)},
		{marks("{", "(", ")", "[", "a"), fault(3, api.ErrSyntax)},
		{marks("{", "'{", "}", "a"), fault(0, api.ErrSyntax)},
		{marks("}", "}"), fault(0, api.ErrSyntax)},
		{list{{Kind: tokens.Mark, Text: "{"}, {Kind: tokens.Mark, Text: "=", At: 1, Col: 1}, {At: 2, Line: 1, Col: 1}}, fault(0, api.ErrSyntax)},
		{list{{Kind: tokens.Mark, Text: "="}, {Kind: tokens.Mark, Text: "}", At: 2, Line: 1, Col: 1}}, fault(1, api.ErrSyntax)},
	} {
		if l, f := tokens.Layout(c.l); l != nil || f != c.want {
			t.Errorf("%d: Layout = %v, %v; want %v", i, l, f, c.want)
		}
	}
	for i, l := range []list{nil, {}, many(20000), {{Kind: tokens.Part}, {}}, {{At: 5}, {At: 6, Line: 1}}, {{At: -5, Line: -5, Col: -5}}, marks("{", "}", "'{", "}", "${", "}", "x", "")} {
		if out, f := tokens.Layout(l); f != (api.Fault{}) || len(out) < len(l)+1 || out[len(out)-1].Kind != tokens.Stop {
			t.Errorf("%d: %v, %v", i, out, f)
		}
	}
}

// P1.2: an Op is a bracket or a keyword by its kind alone.
func TestLayoutKinds(t *testing.T) {
	for kind := tokens.Name; kind <= tokens.End; kind++ {
		for _, text := range []string{"(", ")", "=", "then"} {
			l, f := tokens.Layout([]tokens.Token{{Kind: kind, Text: text}, {At: 20, Line: 1, Col: 1}})
			opens := kind == tokens.Mark && text == "=" || kind == tokens.Key && text == "then"
			faulty := kind == tokens.Mark && (text == "(" || text == ")")
			if faulty != (f == fault(0, api.ErrSyntax)) || opens != (len(l) > 1 && l[1].Kind == tokens.Indent) {
				t.Errorf("%s %s: %s %v", kindNames[kind], text, laidOut(l), f)
			}
		}
	}
}

// P1.2, R4: the argument is neither changed nor kept.
func TestLayoutArgument(t *testing.T) {
	l, _ := tokens.Raw("a =\n b {\n c }\nd")
	long := append(l, tokens.Token{Text: "behind"})
	was := slices.Clone(long)
	out, f := tokens.Layout(long[:len(l)])
	if f.Code != api.OK || !slices.Equal(long, was) {
		t.Errorf("changed: %v, %v", long, f)
	}
	clear(out)
	if !slices.Equal(long, was) {
		t.Errorf("shared: %v", long)
	}
}

// P1.1: Scan is Layout of Raw.
func TestScan(t *testing.T) {
	for _, text := range []string{"", "a =\n b", "class A:\n  def f(x: Int): Int =\n    x + 1\n\n  val y = s\"a${f(1)}\"\nobject B"} {
		l, f := tokens.Raw(text)
		want, g := tokens.Layout(l)
		got, h := tokens.Scan(text)
		if !slices.Equal(got, want) || f != (api.Fault{}) || g != f || h != f {
			t.Errorf("Scan(%q) = %v, %v; want %v", text, got, h, want)
		}
	}
	text := strings.Repeat("a ", 20001)
	if l, f := tokens.Raw(text); len(l) != 20001 || f.Code != api.OK {
		t.Errorf("Raw: %v", f)
	}
	if l, f := tokens.Scan(text); l != nil || f != fault(0, api.ErrLimit) {
		t.Errorf("Scan: %v", f)
	}
}
