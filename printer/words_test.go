package printer_test

import (
	"slices"
	"strings"
	"testing"

	"newel/api"
	"newel/printer"
	"newel/tokens"
)

// checkWords checks that the words of a text have its tokens, and that, joined
// by blanks, they have the same words.
func checkWords(t *testing.T, text string) {
	t.Helper()
	words, f := printer.Words(text)
	list, g := tokens.Raw(text)
	if g.Code != api.OK {
		if f != g || words != nil {
			t.Fatalf("Words(%q): %q, %v, want %v", text, words, f, g)
		}
		return
	}
	if f.Code != api.OK {
		t.Fatalf("Words(%q): %v", text, f)
	}
	var kinds []int
	for _, x := range list {
		kinds = append(kinds, x.Kind)
	}
	joined := strings.Join(words, " ")
	again, _ := tokens.Raw(joined)
	if !slices.EqualFunc(list, again, func(x, y tokens.Token) bool { return x.Kind == y.Kind && x.Text == y.Text }) {
		t.Fatalf("Words(%q): %q", text, words)
	}
	if twice, f := printer.Words(joined); f.Code != api.OK || !slices.Equal(words, twice) {
		t.Fatalf("Words(%q): %v, %q, want %q", joined, f, twice, words)
	}
}

// P4.3: the words of a text.
func TestWords(t *testing.T) {
	for _, c := range []struct {
		text string
		want []string
	}{
		{"", nil},
		{" // c\n/* d */", nil},
		{"val x=1+a.b // c", []string{"val", "x", "=", "1", "+", "a", ".", "b"}},
		{"( [ { '{ ${", nil},
		{"([{'{${}}}])", []string{"(", "[", "{", "'{", "${", "}", "}", "}", "]", ")"}},
		{"_ _a 0 12L 7", []string{"_", "_a", "0", "12L", "7"}},
		{`'a' '\n' '\x41' '\x7b' '"' '\''`, []string{`'a'`, `'\n'`, `'A'`, `'\x7b'`, `'"'`, `'\''`}},
		{`"" "a b" "\x41\"\$'\xff"`, []string{`""`, `"a b"`, `"A\"$'\xff"`}},
		{`s"" x"a"`, []string{`s""`, `x"a"`}},
		{`s "a"`, []string{"s", `"a"`}},
		{`s"a$b c${d+e}$this\$" + f`, []string{`s"a$b c${ d + e }$this\$"`, "+", "f"}},
		{`s"$a\x62"`, []string{`s"$a\x62"`}},
		{`f(s"${g("x",t"$y${1}")}",z)`, []string{"f", "(", `s"${ g ( "x" , t"$y${ 1 }" ) }"`, ",", "z", ")"}},
		{"a\n  b\n=>>", []string{"a", "b", "=>>"}},
	} {
		words, f := printer.Words(c.text)
		want := api.Fault{}
		if _, g := tokens.Raw(c.text); g.Code != api.OK {
			want = g
		}
		if !slices.Equal(words, c.want) || f != want {
			t.Errorf("Words(%q) = %q, %v, want %q, %v", c.text, words, f, c.want, want)
		}
		checkWords(t, c.text)
	}
}

// P4.3: the faults of Words.
func TestWordFaults(t *testing.T) {
	long := strings.Repeat("${a}", 10000)
	for _, c := range []struct {
		text string
		want api.Fault
	}{
		{"a `", api.Fault{At: 2, Code: api.ErrSyntax}},
		{"a (", api.Fault{At: 2, Code: api.ErrSyntax}},
		{"a 2147483648", api.Fault{At: 2, Code: api.ErrRange}},
		{strings.Repeat(" ", api.MaxText+1), api.Fault{At: 0, Code: api.ErrLimit}},
		{`a s"` + strings.Repeat("${a}", 12000) + `" b`, api.Fault{At: 0, Code: api.ErrForm}},
		{`a s"` + strings.Repeat("${a}", 12000) + "\" `", api.Fault{At: 48006, Code: api.ErrSyntax}},
		{`a s"` + long + `" s"` + strings.Repeat("$a", 10) + `"`, api.Fault{}},
	} {
		words, f := printer.Words(c.text)
		if f != c.want || f.Code != api.OK && words != nil {
			t.Errorf("Words(%.20q): %d words, %v, want %v", c.text, len(words), f, c.want)
		}
	}
	exact := strings.Repeat("${a}", 10922) // 6 bytes each, and 4 around them
	if words, f := printer.Words(`s"` + exact + `b"`); f.Code != api.OK || len(words[0]) != api.MaxText {
		t.Errorf("a word of the greatest length: %v", f)
	}
	if _, f := printer.Words(`s"` + exact + `bc"`); f != (api.Fault{Code: api.ErrForm}) {
		t.Errorf("a longer word: %v", f)
	}
}

// P4.4: the words of random texts.
func TestRandomWords(t *testing.T) {
	c := newChooser(6)
	for i := range 2000 {
		checkWords(t, c.text([]string{"unit", "expr", "type", "pattern"}[i%4], 2+i%10))
	}
}
