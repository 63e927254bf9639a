package tokens_test

import (
	"strings"
	"testing"

	"newel/api"
	"newel/tokens"
)

// P1.3: canonical forms and blanks.
func TestShow(t *testing.T) {
	for _, c := range []struct{ text, want string }{
		{"", ""},
		{"f(1,  \"a\\n\") // note", `f ( 1 , "a\n" )`},
		{"val x=1L+\n2", `val x = 1L + 2`},
		{"'{a}${b}", `'{ a } ${ b }`},
		{"a::b=>c_ _", `a :: b => c_ _`},
		{`'a' '\'' '"' '$' '\x7b' '}' '\\' '\n' '\t' '\x00' '\x1f' '\x7f' '\xff' ' ' '~'`, `'a' '\'' '"' '$' '\x7b' '}' '\\' '\n' '\t' '\x00' '\x1f' '\x7f' '\xff' ' ' '~'`},
		{`'\"' '\$' '\x41' '\x0a' '\x09' '\x27'`, `'"' '$' 'A' '\n' '\t' '\''`},
		{`"a\"\'\$\\\n\t\x41\x00\xab{"`, `"a\"'$\\\n\t` + `A\x00\xab{"`},
		{`s"a"`, `s"a"`},
		{`s""`, `s""`},
		{`s "a"`, `s "a"`},
		{`s"a$b c${d}"`, `s"a$b c${ d }"`},
		{`s"a$this.b${if}$if"x`, `s"a$this.b${ if }$if" x`},
		{`s"$a\x62c"`, `s"$a\x62c"`},
		{`s"$a\x5f"`, `s"$a\x5f"`},
		{`s"$a\x31"`, `s"$a\x31"`},
		{`s"$a\x41\x42"`, `s"$a\x41B"`},
		{`s"$this\x62c"`, `s"$this\x62c"`},
		{`s"$a b"`, `s"$a b"`},
		{`s"\x62${a}\x62"`, `s"b${ a }b"`},
		{`s"\'\"\$\\\n\t\x01'{{"`, `s"'\"\$\\\n\t\x01'{{"`},
		{`s"a${t"b$c"}d"e`, `s"a${ t"b$c" }d" e`},
	} {
		l, f := tokens.Raw(c.text)
		if got, e := tokens.Show(l); got != c.want || e != api.OK || f.Code != api.OK {
			t.Errorf("Show of %q = %q, %v, %v; want %q", c.text, got, e, f, c.want)
		}
	}
}

// P1.3: offsets, lines and columns mean nothing.
func TestShowPlaces(t *testing.T) {
	l := []tokens.Token{{Kind: tokens.Name, Text: "a", At: 7, Line: -1, Col: 3}, {Kind: tokens.Op, Text: "+"}}
	if s, e := tokens.Show(l); s != "a +" || e != api.OK {
		t.Errorf("%q, %v", s, e)
	}
}

// P1.3: lists that no text has.
func TestShowFaults(t *testing.T) {
	type list = []tokens.Token
	one := func(kind int, text string) list { return list{{Kind: kind, Text: text}} }
	for i, l := range []list{
		one(tokens.Newline, ""), one(tokens.Indent, ""), one(tokens.Outdent, ""), one(tokens.Stop, ""),
		one(tokens.Kinds, ""), one(-1, ""), one(-1, "a"), one(99, "a"),
		one(tokens.Name, ""), one(tokens.Name, "if"), one(tokens.Name, "_"), one(tokens.Name, "1"), one(tokens.Name, "a b"), one(tokens.Name, "a "), one(tokens.Name, "a//"), one(tokens.Name, "\x80"),
		one(tokens.Name, strings.Repeat("a", api.MaxName+1)),
		one(tokens.Key, "a"), one(tokens.Key, ""), one(tokens.Op, "="), one(tokens.Op, "+ -"), one(tokens.Op, ""), one(tokens.Op, "//"),
		one(tokens.Mark, "+"), one(tokens.Mark, "("), one(tokens.Mark, "}"), one(tokens.Mark, "()"), one(tokens.Mark, "$"),
		one(tokens.Int, "01"), one(tokens.Int, ""), one(tokens.Int, "-1"), one(tokens.Int, "2147483648"), one(tokens.Int, "1L"),
		one(tokens.Long, "1L"), one(tokens.Long, ""), one(tokens.Long, "9223372036854775808"),
		one(tokens.Char, ""), one(tokens.Char, "ab"), one(tokens.Char, "\\n"),
		one(tokens.Start, "s"), one(tokens.Part, "a"), one(tokens.Part, ""), one(tokens.End, ""), one(tokens.End, "\""),
		{{Kind: tokens.Start, Text: "s"}, {Kind: tokens.End}},
		{{Kind: tokens.Start, Text: "if"}, {Kind: tokens.Part}, {Kind: tokens.End}},
		{{Kind: tokens.Start, Text: "s"}, {Kind: tokens.Part}, {Kind: tokens.Part}, {Kind: tokens.End}},
		{{Kind: tokens.Start, Text: "s"}, {Kind: tokens.Part}, {Kind: tokens.End, Text: "x"}},
		{{Kind: tokens.Start, Text: "s"}, {Kind: tokens.Part}, {Kind: tokens.Op, Text: "+"}, {Kind: tokens.Part}, {Kind: tokens.End}},
		{{Kind: tokens.Name, Text: "a"}, {Kind: tokens.Mark, Text: "{"}},
		{{Kind: tokens.String, Text: strings.Repeat("a", api.MaxText-1)}},
		{{Kind: tokens.String, Text: strings.Repeat("\x00", api.MaxText/4)}},
	} {
		if s, e := tokens.Show(l); s != "" || e != api.ErrForm {
			t.Errorf("%d: Show(%.60v) = %.60q, %v", i, l, s, e)
		}
	}
	for i, l := range []list{
		nil, one(tokens.String, ""), one(tokens.String, "\x80\n"), one(tokens.Long, "0"), one(tokens.Char, "{"),
		one(tokens.String, strings.Repeat("a", api.MaxText-2)),
	} {
		if _, e := tokens.Show(l); e != api.OK {
			t.Errorf("%d: Show(%.60v): %v", i, l, e)
		}
	}
}

// P1.3: every byte in a Char, a String and a Part comes back.
func TestShowBytes(t *testing.T) {
	for b := range 256 {
		text := string([]byte{byte(b)})
		for _, l := range [][]tokens.Token{
			{{Kind: tokens.Char, Text: text}},
			{{Kind: tokens.String, Text: text + "a"}},
			{{Kind: tokens.Start, Text: "s"}, {Kind: tokens.Part, Text: text}, {Kind: tokens.Name, Text: "n"}, {Kind: tokens.Part, Text: text + text}, {Kind: tokens.Key, Text: "this"}, {Kind: tokens.Part, Text: text}, {Kind: tokens.End}},
		} {
			s, e := tokens.Show(l)
			again, f := tokens.Raw(s)
			if e != api.OK || f.Code != api.OK || kindsAndTexts(again) != kindsAndTexts(l) {
				t.Errorf("%q: %q, %v, %v", text, s, e, f)
			}
			for i := range len(s) {
				if s[i] < 32 || s[i] > 126 {
					t.Errorf("%q: the byte %d", s, s[i])
				}
			}
		}
	}
}
