package parser_test

import (
	"math/rand"
	"strings"
	"testing"

	"newel/api"
	"newel/parser"
	"newel/syntax"
	"newel/tokens"
)

// split makes the tree of operands with operators between them: that operator
// is the root that binds least, of several the last one, or, if they end with
// a colon, the first one.
func split(operands []syntax.Node, ops []string) syntax.Node {
	if len(ops) == 0 {
		return operands[0]
	}
	root := 0
	for i, op := range ops {
		least := tokens.Precedence(ops[root])
		if p := tokens.Precedence(op); p < least || p == least && !tokens.Right(op) {
			root = i
		}
	}
	kids := []syntax.Node{split(operands[:root+1], ops[:root]), split(operands[root+1:], ops[root+1:])}
	return syntax.Node{Kind: syntax.XInfix, Text: ops[root], Kids: kids}
}

// conflict returns the index of the first operator that associates differently
// from one of its precedence, with only such ones in between that bind more.
func conflict(ops []string) int {
	for j := range ops {
		for i := j - 1; i >= 0 && tokens.Precedence(ops[i]) >= tokens.Precedence(ops[j]); i-- {
			if tokens.Precedence(ops[i]) == tokens.Precedence(ops[j]) && tokens.Right(ops[i]) != tokens.Right(ops[j]) {
				return j
			}
		}
	}
	return -1
}

// P3.2: operators by precedence, from the left or from the right.
func TestOperators(t *testing.T) {
	r := rand.New(rand.NewSource(6))
	pool := strings.Fields("| || |: ^ ^: && &: == != =: =>> < >= >>: :: ::: :> + - ++ +: -: * / % *: ~ ~: ?")
	conflicts := 0
	for range 40000 {
		text := "a"
		operands := []syntax.Node{{Kind: syntax.XName, Text: "a"}}
		var ops []string
		var at []int
		for range r.Intn(7) {
			op := pool[r.Intn(len(pool))]
			ops = append(ops, op)
			at = append(at, len(text)+1)
			text += " " + op + " "
			n := syntax.Node{Kind: syntax.XName, Text: "a"}
			if r.Intn(3) == 0 {
				text += "- "
				n = syntax.Node{Kind: syntax.XPrefix, Text: "-", Kids: []syntax.Node{n}}
			}
			text += "a"
			operands = append(operands, n)
		}
		n, f := parser.Expr(text)
		if i := conflict(ops); i >= 0 {
			conflicts++
			if f != fault(at[i], api.ErrSyntax) {
				t.Fatalf("%q: %v, want a fault at %d", text, f, at[i])
			}
		} else if f.Code != api.OK || !syntax.Equal(n, split(operands, ops)) {
			t.Fatalf("%q: %v, %s", text, f, form(n))
		}
	}
	if conflicts < 1000 {
		t.Errorf("only %d conflicts", conflicts)
	}
}

// P3.2: an operator that assigns stands behind an operation, and what is
// assigned is any expression.
func TestAssignments(t *testing.T) {
	for _, op := range []string{"=", "+=", "-=", "*=", ":=", "::=", "||=", "<<="} {
		want := `(XAssign "` + op + `" (XInfix "+" (XName "a") (XName "b")) (XAssign "` + op + `" (XName "c") (XLambda (SLambdaParam "d" (SNone)) (XName "e"))))`
		n, f := parser.Expr("a + b " + op + " c " + op + " d => e")
		if f.Code != api.OK || form(n) != want {
			t.Errorf("%s: %v, %s", op, f, form(n))
		}
	}
	for _, op := range []string{"==", "<=", ">=", "!=", "==="} {
		n, f := parser.Expr("a " + op + " b")
		if want := `(XInfix "` + op + `" (XName "a") (XName "b"))`; f.Code != api.OK || form(n) != want {
			t.Errorf("%s: %v, %s", op, f, form(n))
		}
	}
}
