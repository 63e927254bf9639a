package parser_test

import (
	"math/rand"
	"slices"
	"strings"
	"testing"

	"newel/api"
	"newel/syntax"
	"newel/tokens"
)

// mutated changes one or two tokens of a list.
func mutated(r *rand.Rand, list, others []tokens.Token) []tokens.Token {
	list = slices.Clone(list)
	for range 1 + r.Intn(2) {
		if len(list) == 0 {
			break
		}
		i := r.Intn(len(list))
		switch r.Intn(4) {
		case 0:
			list = slices.Delete(list, i, i+1)
		case 1:
			list = slices.Insert(list, i, others[r.Intn(len(others))])
		case 2:
			list[i] = others[r.Intn(len(others))]
		case 3:
			j := r.Intn(len(list))
			list[i], list[j] = list[j], list[i]
		}
	}
	return list
}

// randomTexts calls a function with texts that the grammar makes, and such
// ones with other tokens in them.
func randomTexts(seed int64, count int, use func(kind, text string, list []tokens.Token)) {
	x := newGenerator(readGrammar(rules), seed)
	others := []tokens.Token{{Kind: tokens.Name, Text: "a"}}
	for i := range count {
		kind := kinds[i%4]
		list := x.list(starts[kind], 4+x.r.Intn(14))
		switch {
		case len(list) > 120:
			continue
		case i%3 > 0:
			list = mutated(x.r, list, others)
		case len(list) > 0:
			others = list
		}
		if text, code := tokens.Show(list); code == api.OK {
			use(kind, text, list)
		}
	}
}

// checkSyntax checks that a text has a fault where the grammar says so, and
// that what is returned is right.
func checkSyntax(t *testing.T, g grammar, kind, text string) {
	l, f := tokens.Scan(text)
	n, got := parse[kind](text)
	if f.Code != api.OK {
		if got != f || !isZero(n) {
			t.Fatalf("%s %q: %v, want %v", kind, text, got, f)
		}
		return
	}
	i := g.fault(starts[kind], l)
	switch {
	case i >= 0 && got != fault(l[i].At, api.ErrSyntax), i < 0 && got.Code == api.ErrSyntax:
		t.Fatalf("%s %q: %v, but the grammar ends at token %d", kind, text, got, i)
	case got.Code != api.OK && !isZero(n):
		t.Fatalf("%s %q: a tree with %v", kind, text, got)
	case got.Code == api.OK && syntax.Check(n).Code != api.OK:
		t.Fatalf("%s %q: %v is not right", kind, text, n)
	}
}

// P3.1, P3.2, P3.4: the fault of any text, and that what is returned is right.
func TestRandomTexts(t *testing.T) {
	g := readGrammar(rules)
	right := map[string]int{}
	randomTexts(1, 6000, func(kind, text string, list []tokens.Token) {
		checkSyntax(t, g, kind, text)
		if _, f := parse[kind](text); f.Code == api.OK {
			right[kind]++
		}
	})
	for _, kind := range kinds {
		if right[kind] < 100 {
			t.Errorf("only %d texts of %s are right", right[kind], kind)
		}
	}
}

// soup has tokens of which few texts are right.
const soup = `a b A B x _ a a a if then else while do for yield try catch finally throw return match case case case class trait object enum
def val var lazy type given extension import extends with using new this super true null 1 2L 'c' "s" s"" s"a$b" s"$this${ }"
= => <- : <: >: = => : + - * :: | & == += ! =>> . . , , ; ; @ ( ) ( ) [ ] { } { } '{ ${ private abstract private inline final
(a) {a} [A] (a:A) [a] {;} x=> (x)=>`

// P3.1, P3.2
func TestSoup(t *testing.T) {
	g := readGrammar(rules)
	r := rand.New(rand.NewSource(2))
	pieces := strings.Fields(soup)
	for range 60000 {
		var b strings.Builder
		for range 1 + r.Intn(14) {
			b.WriteString(pieces[r.Intn(len(pieces))])
			if r.Intn(6) == 0 {
				b.WriteString("\n" + strings.Repeat(" ", r.Intn(4)))
			} else {
				b.WriteByte(' ')
			}
		}
		kind := kinds[r.Intn(4)]
		checkSyntax(t, g, kind, b.String())
	}
}

// sameTree checks that two texts have equal trees, or faults with equal codes.
func sameTree(t *testing.T, kind, a, b string) bool {
	t.Helper()
	m, f := parse[kind](a)
	n, g := parse[kind](b)
	if f.Code != g.Code || !syntax.Equal(m, n) {
		t.Errorf("%s %q: %v, %s\n%q: %v, %s", kind, a, f, form(m), b, g, form(n))
	}
	return f.Code == api.OK
}

// P3.4: blocks in braces and by indentation, semicolons and line ends are the
// same; comments change nothing.
func TestIndentation(t *testing.T) {
	r := rand.New(rand.NewSource(3))
	x := newGenerator(readGrammar(rules), 4)
	indents := 0
	for range 20000 {
		kind := kinds[r.Intn(3)]
		list := x.list(starts[kind], 6+x.r.Intn(16))
		text, code := tokens.Show(list)
		if _, f := parse[kind](text); len(list) > 200 || code != api.OK || f.Code == api.ErrSyntax {
			continue
		}
		other := indented(list, r)
		if !sameTree(t, kind, text, other) {
			continue
		}
		l, _ := tokens.Scan(other)
		for _, x := range l {
			if x.Kind == tokens.Indent {
				indents++
			}
		}
		if t.Failed() {
			return
		}
	}
	if indents < 500 {
		t.Errorf("only %d indentations", indents)
	}
}

// P3.4: parentheses around an expression, also those around types and
// patterns, change nothing.
func TestParentheses(t *testing.T) {
	x := newGenerator(readGrammar(rules), 5)
	right := 0
	for range 6000 {
		for _, kind := range kinds[1:] {
			list := x.list(kind, 4+x.r.Intn(12))
			text, code := tokens.Show(list)
			if n, f := parse[kind](text); len(list) > 80 || code != api.OK || f.Code != api.OK || n.Kind == syntax.PAlt {
				continue
			}
			right++
			sameTree(t, kind, text, "("+text+")")
			sameTree(t, kind, text, "(\n(/* c */"+text+" )\n ) // c")
			switch kind {
			case "expr":
				sameTree(t, "unit", "val a = "+text, "val a = ("+text+")")
				sameTree(t, "expr", "f(a => "+text+", 1)", "f(a => ("+text+"), 1)")
				sameTree(t, "expr", "if ("+text+") a", "if (("+text+")) a")
				if text[0] != '(' {
					sameTree(t, "expr", "if "+text+" then a", "if ("+text+") then a")
				}
			case "type":
				sameTree(t, "unit", "def f: "+text, "def f: ("+text+")")
				sameTree(t, "type", "A[B, "+text+"]", "A[B, ("+text+")]")
			case "pattern":
				sameTree(t, "pattern", "A(b, "+text+")", "A(b, ("+text+"))")
			}
			if t.Failed() {
				return
			}
		}
	}
	if right < 2000 {
		t.Errorf("only %d", right)
	}
}

// mixed reports whether operators of one precedence associate differently,
// which the grammar does not look at.
func mixed(list []tokens.Token) bool {
	sides := map[int]bool{}
	for _, x := range list {
		if x.Kind != tokens.Op || tokens.Assigns(x.Text) {
			continue
		}
		right := tokens.Right(x.Text)
		if side, ok := sides[tokens.Precedence(x.Text)]; ok && side != right {
			return true
		}
		sides[tokens.Precedence(x.Text)] = right
	}
	return false
}

// FuzzParse checks that no text makes a function panic or return a tree that
// is not right, and that short texts have their faults where the grammar says.
func FuzzParse(f *testing.F) {
	for _, table := range []string{definitionTrees, typeTrees, exprTrees, caseTrees, guardTrees, patternTrees} {
		for i, line := range strings.Split(table, "\n") {
			if _, text, ok := strings.Cut(line, " "); ok && !strings.HasPrefix(line, "\t") {
				f.Add(i, strings.ReplaceAll(text, "¶", "\n"))
			}
		}
	}
	g := readGrammar(rules)
	f.Fuzz(func(t *testing.T, i int, text string) {
		kind := kinds[uint(i)%4]
		if l, _ := tokens.Scan(text); len(l) < 100 && len(text) < 1000 && !mixed(l) {
			checkSyntax(t, g, kind, text)
		} else if n, f := parse[kind](text); f.Code == api.OK && syntax.Check(n).Code != api.OK {
			t.Errorf("%s %q: %v", kind, text, n)
		}
	})
}

// P3.4: a program in both syntaxes.
func TestTwoSyntaxes(t *testing.T) {
	const indented = `
sealed trait Shape: // a comment
  def area: Int

case class Rect(w: Int, h: Int) extends Shape:
  def area = w * h
enum Opt[+A]:
  case Some(value: A)
  case None, Never
given Ord[Int] = new Ord[Int]:
  def less(a: Int, b: Int): Boolean = a < b
extension (a: Int):
  def twice = a + a
  private def thrice: Int =
    val b = twice
    a + b
type Elem[X] = X match
  case Int => String
  case List[_] => Int
object Main:
  def f(s: Shape): Int = s match
    case Rect(w, h) if w > h =>
      w
    case _ => 0
  def loop(n: Int): Unit =
    var i = 0
    while i < n do
      i += 1
      if i % 2 == 0 then
        print(i)
      else
        print(-i)
    for
      x <- xs
      if x > 1
      y = x
    do
      print(s"$x and ${y + 1}")
    try
      g(x => { x })
    catch
      case e: Error => throw e
    finally
      return
`
	const braces = `sealed trait Shape { def area: Int }; case class Rect(w: Int, h: Int) extends Shape { def area = w * h }
enum Opt[+A] { case Some(value: A); case None, Never }; given Ord[Int] = new Ord[Int] { def less(a: Int, b: Int): Boolean = a < b }
extension (a: Int) { def twice = a + a; private def thrice: Int = { val b = twice; a + b } }
type Elem[X] = X match { case Int => String; case List[_] => Int }
object Main {
def f(s: Shape): Int = s match { case Rect(w, h) if w > h => { w } case _ => 0 }
def loop(n: Int): Unit = { var i = 0; while (i < n) { i += 1; if (i % 2 == 0) { print(i) } else { print(-i) } }
for { x <- xs; if x > 1; y = x } { print(s"$x and ${y + 1}") }
try { g(x => { x }) } catch { case e: Error => throw e } finally { return } } }`
	if !sameTree(t, "unit", indented, braces) {
		t.Error("a fault")
	}
}
