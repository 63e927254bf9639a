package tokens_test

import (
	"strings"
	"testing"

	"newel/api"
	"newel/tokens"
)

// P1.1: each kind of token, and where tokens end.
func TestRawTokens(t *testing.T) {
	for _, c := range []struct{ text, want string }{
		{"", ``},
		{" \t\n // only this", ``},
		{"val x = 1 // one", `Key"val" Name"x" Mark"=" Int"1"`},
		{"a _b c1_ __ _1 Z9 iff", `Name"a" Name"_b" Name"c1_" Name"__" Name"_1" Name"Z9" Name"iff"`},
		{"_ _.x", `Mark"_" Mark"_" Mark"." Name"x"`},
		{"()[]{},.;@_ '{}${}", `Mark"(" Mark")" Mark"[" Mark"]" Mark"{" Mark"}" Mark"," Mark"." Mark";" Mark"@" Mark"_" Mark"'{" Mark"}" Mark"${" Mark"}"`},
		{"= => <- : <: >:", `Mark"=" Mark"=>" Mark"<-" Mark":" Mark"<:" Mark">:"`},
		{"== =>> <-- :: <:< >:: := -> <= | ?", `Op"==" Op"=>>" Op"<--" Op"::" Op"<:<" Op">::" Op":=" Op"->" Op"<=" Op"|" Op"?"`},
		{"+-*/%<>=!&|^~:?", `Op"+-*/%<>=!&|^~:?"`},
		{"a=-1", `Name"a" Op"=-" Int"1"`},
		{"a+//b", `Name"a" Op"+"`},
		{"a=/*b*/c", `Name"a" Mark"=" Name"c"`},
		{"a<-/*b*/- c", `Name"a" Mark"<-" Op"-" Name"c"`},
		{"*/ /", `Op"*/" Op"/"`},
		{"+*//*", `Op"+*"`},
		{"0 7 10 2147483647", `Int"0" Int"7" Int"10" Int"2147483647"`},
		{"0L 2147483648L 9223372036854775807L", `Long"0" Long"2147483648" Long"9223372036854775807"`},
		{"1.5 1.x 1+2L;3()", `Int"1" Mark"." Int"5" Int"1" Mark"." Name"x" Int"1" Op"+" Long"2" Mark";" Int"3" Mark"(" Mark")"`},
		{"'a' '\"' '\\'' '\\\"' '\\\\' '\\n' '\\t' '\\$' '\\x7b' '\\xff' '$' ' '", `Char"a" Char"\"" Char"'" Char"\"" Char"\\" Char"\n" Char"\t" Char"$" Char"{" Char"\xff" Char"$" Char" "`},
		{`"" "a b" "'" "\"\n\t\\\$\'\x00\x41" "//" "$x${"`, `String"" String"a b" String"'" String"\"\n\t\\$'\x00A" String"//" String"$x${"`},
		{"f(1,  \"a\")", `Name"f" Mark"(" Int"1" Mark"," String"a" Mark")"`},
		{"a/*b/*c*/d*/e/*/**/*/f", `Name"a" Name"e" Name"f"`},
		{"a // b /* c\nd", `Name"a" Name"d"`},
		{"'{a}", `Mark"'{" Name"a" Mark"}"`},
		{"'{'a'}", `Mark"'{" Char"a" Mark"}"`},
		{"x'a'\"b\"'c'", `Name"x" Char"a" String"b" Char"c"`},
	} {
		l, f := tokens.Raw(c.text)
		if got := kindsAndTexts(l); got != c.want || f != (api.Fault{}) {
			t.Errorf("Raw(%q) = %s, %v; want %s", c.text, got, f, c.want)
		}
	}
}

func TestRawKeywords(t *testing.T) {
	for _, k := range strings.Fields(keywords) {
		l, f := tokens.Raw(k + " " + k + "s")
		if len(l) != 2 || l[0].Kind != tokens.Key || l[0].Text != k || l[1].Kind != tokens.Name || f.Code != api.OK {
			t.Errorf("%s: %v %v", k, l, f)
		}
	}
}

// P1.1: interpolated strings.
func TestRawInterpolated(t *testing.T) {
	for _, c := range []struct{ text, want string }{
		{`s""`, `Start"s" Part"" End""`},
		{`s"a"`, `Start"s" Part"a" End""`},
		{`s"a$b c${d}"`, `Start"s" Part"a" Name"b" Part" c" Mark"${" Name"d" Mark"}" Part"" End""`},
		{`s"$a$b"`, `Start"s" Part"" Name"a" Part"" Name"b" Part"" End""`},
		{`s"$this.x $_y $__"`, `Start"s" Part"" Key"this" Part".x " Name"_y" Part" " Name"__" Part"" End""`},
		{`s"a\$b\"\n\x24"`, `Start"s" Part"a$b\"\n$" End""`},
		{`s"'{ // /* { }"`, `Start"s" Part"'{ // /* { }" End""`},
		{`s"${ {a} }b"`, `Start"s" Part"" Mark"${" Mark"{" Name"a" Mark"}" Mark"}" Part"b" End""`},
		{`s"${ ${a} }b"`, `Start"s" Part"" Mark"${" Mark"${" Name"a" Mark"}" Mark"}" Part"b" End""`},
		{`s"a${t"b${c}d"}e" f`, `Start"s" Part"a" Mark"${" Start"t" Part"b" Mark"${" Name"c" Mark"}" Part"d" End"" Mark"}" Part"e" End"" Name"f"`},
		{"s\"${a\n// }\n}b\"", `Start"s" Part"" Mark"${" Name"a" Mark"}" Part"b" End""`},
		{`s"${}"`, `Start"s" Part"" Mark"${" Mark"}" Part"" End""`},
		{`s "a"`, `Name"s" String"a"`},
		{`s/**/"a"`, `Name"s" String"a"`},
		{`if"a"`, `Key"if" String"a"`},
		{`_"a"`, `Mark"_" String"a"`},
		{`_1"a"`, `Start"_1" Part"a" End""`},
		{`a.b"c"`, `Name"a" Mark"." Start"b" Part"c" End""`},
		{`s"a"t"b"`, `Start"s" Part"a" End"" Start"t" Part"b" End""`},
		{`"a"t"b"`, `String"a" Start"t" Part"b" End""`},
	} {
		l, f := tokens.Raw(c.text)
		if got := kindsAndTexts(l); got != c.want || f != (api.Fault{}) {
			t.Errorf("Raw(%q) = %s, %v; want %s", c.text, got, f, c.want)
		}
	}
}

// P1.1: offsets, lines and columns.
func TestRawPlaces(t *testing.T) {
	for _, c := range []struct{ text, want string }{
		{"a\n\tb c\n\n  d", "0:0:0 3:1:1 5:1:3 10:3:2"},
		{"/*\n*/ a // x\n=>", "6:1:3 13:2:0"},
		{"'\\x41' \"\\n\" 12L +", "0:0:0 7:0:7 12:0:12 16:0:16"},
		{"a /*/*\n*/\n*/b", "0:0:0 12:2:2"},
		{" s\"a$b c${d}\"", "1:0:1 3:0:3 5:0:5 6:0:6 8:0:8 10:0:10 11:0:11 12:0:12 12:0:12"},
		{"s\"${\na}b\"", "0:0:0 2:0:2 2:0:2 5:1:0 6:1:1 7:1:2 8:1:3"},
	} {
		l, f := tokens.Raw(c.text)
		if got := places(l); got != c.want || f != (api.Fault{}) {
			t.Errorf("Raw(%q) = %s, %v; want %s", c.text, got, f, c.want)
		}
	}
}

// P1.1: the first fault.
func TestRawFaults(t *testing.T) {
	long := strings.Repeat("n", api.MaxName)
	for _, c := range []struct {
		text string
		at   int
		code api.Errno
	}{
		{strings.Repeat("\x00", api.MaxText+1), 0, api.ErrLimit},
		{strings.Repeat(" ", api.MaxText) + " ", 0, api.ErrLimit},
		{"\x00\x01", 0, api.ErrSyntax}, {"# a\x7f", 3, api.ErrSyntax}, {"a // \r", 5, api.ErrSyntax}, {"\"\x80\"", 1, api.ErrSyntax}, {"01 \x1f", 3, api.ErrSyntax},
		{"a #", 2, api.ErrSyntax}, {"a ` b", 2, api.ErrSyntax}, {"a \\", 2, api.ErrSyntax}, {" $", 1, api.ErrSyntax}, {" $a", 1, api.ErrSyntax},
		{"a \"b", 2, api.ErrSyntax}, {"\"a\n\"", 0, api.ErrSyntax}, {"\"a\tb\"", 0, api.ErrSyntax}, {"\"a\\\"", 0, api.ErrSyntax}, {"\"", 0, api.ErrSyntax},
		{" /* a /* b */", 1, api.ErrSyntax}, {"/*/", 0, api.ErrSyntax}, {"/* // */ /*\n*", 9, api.ErrSyntax},
		{" \"\\q\"", 1, api.ErrSyntax}, {"\"\\x4\"", 0, api.ErrSyntax}, {"\"\\x4A\"", 0, api.ErrSyntax}, {"\"\\xg0\"", 0, api.ErrSyntax}, {"\"\\", 0, api.ErrSyntax}, {"\"\\x", 0, api.ErrSyntax}, {"\"\\x1", 0, api.ErrSyntax}, {"\"\\{\"", 0, api.ErrSyntax},
		{" ''", 1, api.ErrSyntax}, {" 'ab'", 1, api.ErrSyntax}, {"'", 0, api.ErrSyntax}, {"'a", 0, api.ErrSyntax}, {"'\n'", 0, api.ErrSyntax}, {"'''", 0, api.ErrSyntax}, {"'\\'", 0, api.ErrSyntax}, {"'{'", 2, api.ErrSyntax},
		{" 01", 1, api.ErrSyntax}, {"00", 0, api.ErrSyntax}, {"01L", 0, api.ErrSyntax}, {" 1x", 1, api.ErrSyntax}, {"1_", 0, api.ErrSyntax}, {"1Lx", 0, api.ErrSyntax}, {"1L1", 0, api.ErrSyntax}, {"1L_", 0, api.ErrSyntax}, {"1l", 0, api.ErrSyntax}, {"99999999999x", 0, api.ErrSyntax},
		{" 2147483648", 1, api.ErrRange}, {"10000000000", 0, api.ErrRange}, {"9223372036854775808L", 0, api.ErrRange}, {"10000000000000000000L", 0, api.ErrRange},
		{" " + long + "n", 1, api.ErrLimit}, {" " + long + "n\"\"", 1, api.ErrLimit}, {strings.Repeat("+", api.MaxName+1), 0, api.ErrLimit}, {"s\"$" + long + "n\"", 3, api.ErrLimit},
		{"s\"a$ b\"", 3, api.ErrSyntax}, {"s\"$$\"", 2, api.ErrSyntax}, {"s\"$_\"", 2, api.ErrSyntax}, {"s\"$1\"", 2, api.ErrSyntax}, {"s\"$", 2, api.ErrSyntax}, {"s\"a$\"", 3, api.ErrSyntax}, {"s\"$a$(\"", 4, api.ErrSyntax},
		{"s\"a", 2, api.ErrSyntax}, {"s\"\n\"", 2, api.ErrSyntax}, {"s\"a$b c", 5, api.ErrSyntax}, {"s\"a${b} c\n\"", 7, api.ErrSyntax}, {"s\"a\\q\"", 2, api.ErrSyntax}, {"s\"a\t\"", 2, api.ErrSyntax},
		{"s\"a${b", 3, api.ErrSyntax}, {"s\"a${b(c", 6, api.ErrSyntax}, {"s\"a${b\"", 7, api.ErrSyntax},
		{"a )", 2, api.ErrSyntax}, {"(]", 1, api.ErrSyntax}, {"[ }", 2, api.ErrSyntax}, {"{ )", 2, api.ErrSyntax}, {"'{ ]", 3, api.ErrSyntax}, {"${ )", 3, api.ErrSyntax}, {"}", 0, api.ErrSyntax}, {"s\"${ ) }\"", 5, api.ErrSyntax},
		{"(a", 0, api.ErrSyntax}, {"{ [ ( )", 2, api.ErrSyntax}, {"( #", 2, api.ErrSyntax}, {"'{", 0, api.ErrSyntax}, {" ${ a", 1, api.ErrSyntax},
		{"01 #", 0, api.ErrSyntax}, {"# 01", 0, api.ErrSyntax},
	} {
		l, f := tokens.Raw(c.text)
		if l != nil || f != fault(c.at, c.code) {
			t.Errorf("Raw(%.40q) = %v, %v; want %v", c.text, l, f, fault(c.at, c.code))
		}
		l, f = tokens.Scan(c.text)
		if l != nil || f != fault(c.at, c.code) {
			t.Errorf("Scan(%.40q) = %v, %v; want %v", c.text, l, f, fault(c.at, c.code))
		}
	}
}

// P1.1: what is just within the limits.
func TestRawLimits(t *testing.T) {
	long := strings.Repeat("n", api.MaxName)
	for _, text := range []string{
		strings.Repeat(" ", api.MaxText), long, long + `"a"`, strings.Repeat("+", api.MaxName), `s"$` + long + `"`,
		`"` + strings.Repeat("n", api.MaxText-2) + `"`,
		strings.Repeat("(", api.MaxNest) + strings.Repeat(")", api.MaxNest),
		strings.Repeat(`s"${`, api.MaxNest) + strings.Repeat(`}"`, api.MaxNest),
	} {
		if _, f := tokens.Raw(text); f != (api.Fault{}) {
			t.Errorf("Raw(%.20q..): %v", text, f)
		}
	}
}

func TestRawDepth(t *testing.T) {
	for _, mark := range []string{"(", "[", "{", "'{", "${"} {
		text := strings.Repeat("{", api.MaxNest) + " " + mark
		if l, f := tokens.Raw(text); l != nil || f != fault(api.MaxNest+1, api.ErrDepth) {
			t.Errorf("%s: %v, %v", mark, l, f)
		}
	}
	text := strings.Repeat(`s"${`, api.MaxNest) + `s"a${`
	if l, f := tokens.Raw(text); l != nil || f != fault(4*api.MaxNest+3, api.ErrDepth) {
		t.Errorf("%v, %v", l, f)
	}
}

// P1.1: every byte, alone.
func TestRawBytes(t *testing.T) {
	want := map[int]string{
		tokens.Name: "ABCDEFGHIJKLMNOPQRSTUVWXYZabcdefghijklmnopqrstuvwxyz",
		tokens.Op:   "+-*/%<>!&|^~?", tokens.Mark: ",.;@_=:", tokens.Int: "0123456789",
	}
	for b := range 256 {
		text := string([]byte{byte(b)})
		l, f := tokens.Raw(text)
		found := b == 9 || b == 10 || b == 32
		if found && (len(l) != 0 || f != (api.Fault{})) {
			t.Errorf("%q: %v, %v", text, l, f)
		}
		for kind, bytes := range want {
			if strings.IndexByte(bytes, byte(b)) >= 0 {
				found = true
				if f != (api.Fault{}) || len(l) != 1 || l[0] != (tokens.Token{Kind: kind, Text: text}) {
					t.Errorf("%q: %v, %v", text, l, f)
				}
			}
		}
		if !found && (l != nil || f != fault(0, api.ErrSyntax)) {
			t.Errorf("%q: %v, %v", text, l, f)
		}
	}
}

// P1.1: every byte behind a backslash.
func TestRawEscapes(t *testing.T) {
	for b := 32; b < 127; b++ {
		text := `"\` + string([]byte{byte(b)}) + `"`
		l, f := tokens.Raw(text)
		want := ""
		switch b {
		case 'n':
			want = "\n"
		case 't':
			want = "\t"
		case '\\', '\'', '$':
			want = string([]byte{byte(b)})
		case '"':
			continue // the string goes on
		}
		if want == "" && f != fault(0, api.ErrSyntax) || want != "" && (len(l) != 1 || l[0].Text != want) {
			t.Errorf("Raw(%q) = %v, %v", text, l, f)
		}
	}
	for b := range 256 {
		const hex = "0123456789abcdef"
		text := `'\x` + string([]byte{hex[b/16], hex[b%16]}) + `'`
		l, f := tokens.Raw(text)
		if len(l) != 1 || l[0].Text != string([]byte{byte(b)}) || f != (api.Fault{}) {
			t.Errorf("Raw(%q) = %v, %v", text, l, f)
		}
	}
}
