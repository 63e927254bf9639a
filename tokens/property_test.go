package tokens_test

import (
	"math/rand"
	"slices"
	"strings"
	"testing"

	"newel/api"
	"newel/tokens"
)

// pieces are what random texts are made of.
var pieces = []string{
	"a", "b1", "_", "_x", "if", "then", "else", "def", "return", "match", "case", "val", "this", "yield", "with",
	"=", "=>", "<-", ":", "<:", ">:", "+", "- ", "::", "+=", "|", "/", "*",
	"(", ")", "[", "]", "{", "}", "{", "}", "(", ")", "'{", "${", ",", ".", ";", "@",
	"0", "1", "42", "7L", "'a'", "'\\n'", "'\\x7b'", "\"\"", "\"a b\"", "\"\\\"\\x00\"",
	"s\"a$b c\"", "s\"$this${", "}\"", "{a}", "(b)", "[\n]", "{\n}",
	" ", " ", "  ", "\t", "\n", "\n", "\n  ", "\n    ", "\n  ", "// c\n", "/* c */", "/* \n */", "*/",
}

// faulty are pieces of which few texts are right.
var faulty = []string{"2147483648", "01", "s\"", "$", "$a", "\"", "'", "\\", "#", "/*", "\x00", "\x80"}

func randomText(r *rand.Rand) string {
	var b strings.Builder
	for range r.Intn(24) {
		if r.Intn(100) == 0 {
			b.WriteString(faulty[r.Intn(len(faulty))])
		} else {
			b.WriteString(pieces[r.Intn(len(pieces))])
		}
		if r.Intn(2) == 0 {
			b.WriteByte(' ')
		}
	}
	return b.String()
}

// layoutKind reports whether Layout puts tokens of a kind.
func layoutKind(t tokens.Token) bool { return t.Kind >= tokens.Newline }

func checkPlaces(t *testing.T, text string, l []tokens.Token) {
	for i, x := range l {
		line := strings.Count(text[:x.At], "\n")
		col := x.At - (strings.LastIndexByte(text[:x.At], '\n') + 1)
		if x.Line != line || x.Col != col || i > 0 && (x.At < l[i-1].At || x.At == l[i-1].At && l[i-1].Kind != tokens.Part) {
			t.Fatalf("%q: the token %d is at %d:%d:%d", text, i, x.At, x.Line, x.Col)
		}
	}
}

// P1.5: Indents and Outdents match, also inside of each bracket.
func checkMatched(t *testing.T, text string, l []tokens.Token) {
	var open []string
	for i, x := range l {
		switch {
		case x.Kind == tokens.Indent:
			open = append(open, "IN")
		case x.Kind == tokens.Mark && strings.Contains("( [ { '{ ${", x.Text):
			open = append(open, x.Text)
		case x.Kind == tokens.Outdent || x.Kind == tokens.Mark && strings.Contains(")]}", x.Text):
			if len(open) == 0 || (x.Kind == tokens.Outdent) != (open[len(open)-1] == "IN") {
				t.Fatalf("%q: the token %d closes nothing: %s", text, i, laidOut(l))
			}
			open = open[:len(open)-1]
		}
	}
	if len(open) != 0 {
		t.Fatalf("%q: %v are open: %s", text, open, laidOut(l))
	}
}

func checkLayout(t *testing.T, text string, raw []tokens.Token) {
	l, f := tokens.Layout(raw)
	if f.Code != api.OK {
		if l != nil {
			t.Fatalf("%q: %v with %v", text, l, f)
		}
		return
	}
	if last := l[len(l)-1]; last.Kind != tokens.Stop {
		t.Fatalf("%q: the last token is %v", text, last)
	}
	if !slices.Equal(slices.DeleteFunc(slices.Clone(l), layoutKind), raw) {
		t.Fatalf("%q: layout changed tokens: %s", text, laidOut(l))
	}
	for i, x := range l[:len(l)-1] {
		next := l[i+1]
		if layoutKind(x) && (x.At != next.At || x.Line != next.Line || x.Col != next.Col || x.Text != "") {
			t.Fatalf("%q: the token %d has another place: %v", text, i, l)
		}
	}
	checkMatched(t, text, l)
	if !strings.Contains(text, "\n") && len(l) != len(raw)+1 {
		t.Fatalf("%q: layout in one line: %s", text, laidOut(l))
	}
}

// P1.5: Raw of Show has the same kinds and texts.
func checkShow(t *testing.T, text string, raw []tokens.Token) {
	s, e := tokens.Show(raw)
	again, f := tokens.Raw(s)
	if e != api.OK || f.Code != api.OK || kindsAndTexts(again) != kindsAndTexts(raw) {
		t.Fatalf("%q: Show = %q, %v, %v", text, s, e, f)
	}
	if twice, _ := tokens.Show(again); twice != s {
		t.Fatalf("%q: Show of Raw of %q = %q", text, s, twice)
	}
}

// P1, P1.5: random texts.
func TestRandomTexts(t *testing.T) {
	r := rand.New(rand.NewSource(1))
	right := 0
	for range 100000 {
		text := randomText(r)
		raw, f := tokens.Raw(text)
		if f.Code != api.OK {
			if raw != nil || f.At < 0 || f.At > len(text) {
				t.Fatalf("Raw(%q) = %v, %v", text, raw, f)
			}
			continue
		}
		if len(raw) > 3 {
			right++
		}
		checkPlaces(t, text, raw)
		checkLayout(t, text, raw)
		checkShow(t, text, raw)
	}
	if right < 5000 {
		t.Errorf("%d texts are right", right)
	}
}

// P1.5: blanks and comments between tokens in a line change only At and Col.
func TestBlanksAndComments(t *testing.T) {
	line := []string{"def", "f", "(", "x", ":", "Int", ")", "=", "s\"a$b\"", "+", "'c'", "<-", "1L", "{", "\"d\"", "}", "_", "e"}
	want := ""
	for i, gap := range []string{" ", "  ", "\t", " /* x */ ", "/**/ ", " /* /* ) */ ' */"} {
		l, f := tokens.Scan(strings.Join(line, gap) + gap)
		got := kindsAndTexts(l)
		if i == 0 {
			want = got
		}
		if got != want || f.Code != api.OK || l[len(l)-2].Line != 0 {
			t.Errorf("%q: %s, %v", gap, got, f)
		}
	}
}

// P1: lists of random tokens.
func TestRandomLists(t *testing.T) {
	r := rand.New(rand.NewSource(2))
	texts := slices.Concat(strings.Fields(keywords), pieces, faulty)
	for range 100000 {
		var l []tokens.Token
		var at, line, col int
		for range r.Intn(12) {
			at++
			col++
			if r.Intn(3) == 0 {
				line++
				col = r.Intn(4)
			}
			l = append(l, tokens.Token{Kind: r.Intn(tokens.End + 1), Text: texts[r.Intn(len(texts))], At: at, Line: line, Col: col})
			at += r.Intn(3)
			col += r.Intn(2)
		}
		was := slices.Clone(l)
		if out, f := tokens.Layout(l); f.Code == api.OK {
			if !slices.Equal(slices.DeleteFunc(out, layoutKind), l) {
				t.Fatalf("%v: %v", l, out)
			}
		} else if out != nil {
			t.Fatalf("%v: %v, %v", l, out, f)
		}
		if s, e := tokens.Show(l); e == api.OK {
			checkShow(t, s, l)
		} else if s != "" || e != api.ErrForm {
			t.Fatalf("%v: %q, %v", l, s, e)
		}
		if !slices.Equal(l, was) {
			t.Fatalf("%v was changed", was)
		}
	}
}

// P1: a call does not panic, and two equal calls are equal.
func FuzzScan(f *testing.F) {
	f.Add("def f =\n  s\"a$b c${d}\"\ng")
	f.Add("'{ ${ a } }")
	f.Fuzz(func(t *testing.T, text string) {
		a, e := tokens.Scan(text)
		b, g := tokens.Scan(text)
		if !slices.Equal(a, b) || e != g {
			t.Fatalf("%v, %v", a, b)
		}
		raw, e := tokens.Raw(text)
		if e.Code == api.OK {
			checkPlaces(t, text, raw)
			checkLayout(t, text, raw)
		}
		tokens.Show(raw)
		tokens.Keyword(text)
		tokens.Precedence(text)
		tokens.Right(text)
		tokens.Assigns(text)
	})
}
