package tokens_test

import (
	"strings"
	"testing"

	"newel/tokens"
)

// P1.4: keywords.
func TestKeyword(t *testing.T) {
	for _, k := range strings.Fields(keywords) {
		if !tokens.Keyword(k) || tokens.Keyword(k+" ") || tokens.Keyword(strings.ToUpper(k)) || tokens.Keyword(k+k) {
			t.Error(k)
		}
	}
	for _, s := range []string{"", " ", "a", "_", "=", "Unit", "until", "cas", "abstract case", "implicit", "package", "protected", "end", "\x00"} {
		if tokens.Keyword(s) {
			t.Errorf("%q", s)
		}
	}
}

// P1.4: precedences by every first byte.
func TestPrecedence(t *testing.T) {
	by := map[byte]int{'|': 2, '^': 3, '&': 4, '=': 5, '!': 5, '<': 6, '>': 6, ':': 7, '+': 8, '-': 8, '*': 9, '/': 9, '%': 9, '~': 10, '?': 10, '_': 1}
	for b := range 256 {
		want, ok := by[byte(b)]
		if b >= 'a' && b <= 'z' || b >= 'A' && b <= 'Z' {
			want, ok = 1, true
		}
		if !ok {
			want = -1
		}
		for _, rest := range []string{"", "+", "a:", "==+"} {
			op := string([]byte{byte(b)}) + rest
			if got := tokens.Precedence(op); got != want {
				t.Errorf("Precedence(%q) = %d; want %d", op, got, want)
			}
		}
	}
	for op, want := range map[string]int{"": -1, "+=": 0, "::=": 0, "*==": 0, "<<=": 0, ":=": 0, "a=": 0, "=": 5, "==": 5, "===": 5, "!=": 5, "!==": 0, "<=": 6, ">=": 6, "=>": 5, "max": 1, "||": 2, "&&": 4} {
		if got := tokens.Precedence(op); got != want {
			t.Errorf("Precedence(%q) = %d; want %d", op, got, want)
		}
	}
}

// P1.4: operators that associate to the right, and that assign.
func TestRightAndAssigns(t *testing.T) {
	for _, c := range []struct {
		op             string
		right, assigns bool
	}{
		{"", false, false}, {":", true, false}, {"::", true, false}, {"+:", true, false}, {":+", false, false}, {"a:", true, false}, {": ", false, false},
		{"=", false, false}, {"==", false, false}, {"=+=", false, false}, {"<=", false, false}, {">=", false, false}, {"!=", false, false},
		{"+=", false, true}, {"-=", false, true}, {"<<=", false, true}, {">>=", false, true}, {"!==", false, true}, {"<==", false, true}, {":=", false, true}, {"|=", false, true}, {"a=", false, true},
		{"+", false, false}, {"=:", true, false}, {"+=:", true, false}, {"+= ", false, false},
	} {
		if tokens.Right(c.op) != c.right || tokens.Assigns(c.op) != c.assigns {
			t.Errorf("%q: %v %v", c.op, tokens.Right(c.op), tokens.Assigns(c.op))
		}
	}
}
