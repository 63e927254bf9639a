package parser_test

import (
	"strings"
	"testing"

	"newel/api"
	"newel/parser"
	"newel/tokens"
)

// In these texts ^ stands in front of the token at which no rule goes on.

// P3.1: faults of units.
const unitFaults = `
^1
^x
; ^x
val ^1
val ^
val ^+ = 1
val x ^y
val x = ^
val x = ^;
val x = ^val y
val x: ^= 1
val x: A => ^= 1
val x = { a ^: B }
val x =¶  a¶  b ^c
val x =¶  a¶^y
private ^private val x
final private ^final class A
private ^import a
private ^extension (x: A) def f
private ^1
lazy ^var x
case ^trait A
case ^enum A { }
case ^A
final case ^def f
import ^*
import a.^+
import a.* ^.b
import a.*¶^val x
import a ^b
class ^+
class A ^1
class A: ^val x
class A:¶^val x
class A(x^)
class A extends ^{ }
class A extends B with ^,
class A extends B ^& C
class A extends B(^using c)
class A extends B.^+
class A { val x ^val y }
class A { def f ^1 }
class A { case ^B }
object A^[B]
object A^(x: B)
enum A extends B^; val x
enum A ^
enum A { case ^1 }
enum A { case B, ^}
enum A { case B, C^(x: D) }
enum A { case B(x: D)^, C }
enum A { case B ^{ } }
enum A { private case ^B }
enum A { class B { case ^C } }
def ^1
def f(x^)
def f(x: A^; y: B)
def f(x: => A^*)
def f(x: A* ^*)
def f(val ^var x: A)
def f(private ^private x: A)
def f(x: A,^)
def f(using ^using x: A)
def f ^{ }
def f: A ^{ }
def f[^]
def f[^1]
def f[A[^B]]
def f[+ ^+ A]
def f(x: A)^[B]
def f[A]^[B]
type ^+
type A >: B ^= C
type A <: B ^>: C
type A = B ^<: C
given a(x: A) ^= b
given a: b^: A = c
given ^= a
given a: A^
given a^
extension ^def f
extension (^) def f
extension (x: A^, y: B) def f
extension (x: A) ^val y
extension (x: A) { ^}
extension (x: A) { ; ^}
extension (x: A) { private ^val x }
extension (x: A):¶  ^val x
extension (x: A): ^def f
extension (x: A)¶  ^def f
`

// P3.2: faults of expressions.
const exprFaults = `
^
a ^b
a; ^b
^*
^match
a + ^
a + ^* b
a.^1
a.^this
a^:
(a ^b)
(a^, b)
(a: A^, b)
(a: A ^= c)
(^*)
f(a^; b)
f(^, a)
f(a,^)
f(x = ^)
f(using ^= a)
f[^]
f[A, ^1]
f[^_]
super^
super[^this].a
super.^1
super[A]^(b)
new ^1
new A with ^{ }
new A(x, ^)
new A^, B
new A: ^B
new A.^1
a + b ^+: c
a +: b ^+ c
a + b * c ^+: d
a +: b * c ^- d
a * b + c ^+: d
a + b + c ^+: d
a +: (b + c) +: d ^+ e
a + b ^+: *
a = ^
a += ^* b
a match ^case b => c
a match ^
a match { ^}
a match { case b ^}
a match { ; ^c }
a match { case b => c ^d }
a match { case b => { c }; ^d }
a match { case b => { c }; case e => ^=> }
a match { case b => 1 ^=> }
a match { case b => c => ^}
a match { case b => case ^class C }
try a catch case b if c^
a match { case b if _ => c ^}
a match { case b if ^=> c }
a match¶  case b =>¶    c¶  ^d
a match { case b => c } ^b
a match { case b => c } ^+ d
a match { case b => c }^.d
x => ^=> y
_ ^+ 1
_ ^
(x, ^1) => y
(x ^+ y) => z
(x: A ^=> B) => y
(^(x)) => y
a + x ^=> y
(x) ^y
if (a^: B) c
if (a) b ^then c
if (^) a
if a ^else b
if (a) ^
if (a)¶  ^b
f(if (a) b; ^c)
(try a; ^b)
if (a) + b ^then c
while (a) ^
while a ^then b
while (a) ^then b
for ^yield
for (x) ^y
for (x^, y <- z) a
for (x <- y ^yield z)
for (x <- y) ^
for x <- y ^z
for x <- y; z ^+ a
for x <- y; ^while
for (; ^)
for (x ^= y) z
for { x <- y ^z <- a } b
for { ^if a } b
for { x <- y; z ^} a
try ^catch a
try a catch ^b
try a finally ^
try a catch { ^}
throw ^
return ^* 2
return a ^b
{ a ^b }
{ a^, b }
{ ^* }
'{ a ^b }
${ a ^b }
s"$^if"
s"${a ^b}"
s"${^}"
s"a$b" ^c
^class A
a ^extends B
`

// P3.2: faults of types and patterns.
const typeFaults = `
^
A ^B
A; ^B
^1
A | ^
A & ^| B
A[^]
A[B,^]
A[_ >: ^_]
(A^, B)
(A, B) => ^
(^)
(^) | A
() => ^
A.^1
A.^+
this ^
this.^this
this.type^.A
a.type^.b
[A] ^=> B
[^] =>> A
[A[^+]] =>> B
A match ^
A match ^B
A match { ^}
A match { case B => C ^case D => E }
A match { case ^_ => B }
A match { case B => C } ^=> D
A match { case B => C => ^}
A => ^
^=> A
A^*
`

const patternFaults = `
^
a ^b
^+
- ^a
- ^- 1
a.^1
a ^+
A(^;)
A(b,^)
(a^, b)
a @ ^
a.b ^@ c
a.b^: C
1^: A
_ ^@ a
_^(a)
A^[B]
_^.a
a | ^
a: ^1
a: A ^=> B
a: A | 1 ^b
a: A | (B^, C)
a: A | b.^1
a: A | B[^]
a: A | (_ ^b)
^this
^super
^s"a"
a ^* b
`

func TestSyntaxFaults(t *testing.T) {
	for kind, table := range map[string]string{"unit": unitFaults, "expr": exprFaults + guardFaults[1:], "type": typeFaults, "pattern": patternFaults} {
		for _, marked := range strings.Split(strings.Trim(table, "\n"), "\n") {
			marked = strings.ReplaceAll(marked, "¶", "\n")
			text := strings.Replace(marked, "^", "", 1)
			at := strings.Index(marked, "^")
			if at == len(text) {
				at = stop(text)
			}
			checkFault(t, kind, text, fault(at, api.ErrSyntax))
		}
	}
}

// stop is the offset of Stop: that of the last token plus 1.
func stop(text string) int {
	l, _ := tokens.Raw(text)
	if len(l) == 0 {
		return 0
	}
	return l[len(l)-1].At + 1
}

func checkFault(t *testing.T, kind, text string, want api.Fault) {
	t.Helper()
	if n, f := parse[kind](text); f != want || !isZero(n) {
		t.Errorf("%s %.300q: %v, %s; want %v", kind, text, f, form(n), want)
	}
}

// P3.1: faults of tokens.Scan are told first, wherever they are, and those of
// syntax.Check last.
func TestOrderOfFaults(t *testing.T) {
	path := strings.Repeat("a.", 8) + "b"
	names := strings.Repeat("a, ", 200) + "a"
	for _, c := range []struct {
		kind, text string
		want       api.Fault
	}{
		{"unit", "val val \"", fault(8, api.ErrSyntax)},
		{"unit", "val val 3000000000", fault(8, api.ErrRange)},
		{"unit", "val val )", fault(8, api.ErrSyntax)},
		{"unit", strings.Repeat(" ", api.MaxText+1), fault(0, api.ErrLimit)},
		{"expr", strings.Repeat("(", 65), fault(64, api.ErrDepth)},
		{"unit", "val val =\n    a\n  b", fault(18, api.ErrOrder)},

		{"unit", "val x = 1; import " + path, fault(11, api.ErrName)},
		{"unit", "val x = 1; import " + path + "; val val", fault(11+len("import "+path+"; val "), api.ErrSyntax)},
		{"pattern", "x @ " + path, fault(4, api.ErrName)},
		{"pattern", "A(x, " + path + "(1))", fault(5, api.ErrName)},
		{"unit", "class A()()()()()", fault(7, api.ErrForm)},
		{"expr", "1 + f(a)(x = b, c)", fault(4, api.ErrForm)},
		{"expr", " (f)(x = b, c)", fault(1, api.ErrForm)},
		{"expr", "a match { case b @ c => d }", fault(15, api.ErrForm)},
		{"pattern", " (a | b) | c", fault(1, api.ErrForm)},
		{"pattern", "A((a | b) | c, d @ e)", fault(2, api.ErrForm)},
		{"expr", "  f(" + names + ")", fault(2, api.ErrForm)},
		{"expr", "  { a; f(" + names + ", a) }", fault(7, api.ErrForm)},
		{"type", " A[" + names + "]", fault(1, api.ErrForm)},
		{"expr", " " + strings.Repeat("- ", 64) + "x", fault(1, api.ErrDepth)},
		{"expr", " x" + strings.Repeat(".y", 9000), fault(1, api.ErrDepth)},
		{"expr", " ; {" + strings.Repeat("def f;", 4000) + "}", fault(3, api.ErrLimit)},
		{"unit", " " + strings.Repeat("def f;", 4000), fault(1, api.ErrLimit)},
		{"unit", " " + strings.Repeat("def f;", 201), fault(1, api.ErrForm)},
	} {
		checkFault(t, c.kind, c.text, c.want)
	}
	for kind, text := range map[string]string{"pattern": path[2:], "unit": "import " + path[2:], "expr": strings.Repeat("- ", 63) + "x", "type": "A[" + names[3:] + "]"} {
		if n, f := parse[kind](text); f.Code != api.OK {
			t.Errorf("%q: %v, %s", text, f, form(n))
		}
	}
}

// P3.1: ErrDepth at the first token of what is nested in more than 100 others.
func TestDepth(t *testing.T) {
	times := func(head string, count int) string { return strings.Repeat(head, count) }
	for _, c := range []struct {
		kind, text string
		want       api.Fault
	}{
		{"expr", times("x => ", 101) + "y", fault(505, api.ErrDepth)},
		{"expr", times("x => ", 100) + "y", fault(0, api.ErrDepth)}, // the tree
		{"expr", times("x => ", 62) + "y", fault(0, api.OK)},
		{"expr", times("x = ", 150) + "y", fault(404, api.ErrDepth)},
		{"expr", times("throw ", 150) + "y", fault(606, api.ErrDepth)},
		{"expr", times("if a then b else ", 150) + "c", fault(1703, api.ErrDepth)}, // a condition
		// A prefix counts, and the right operand of an operator.
		{"expr", times("- ", 101) + "y", fault(200, api.ErrDepth)},
		{"expr", times("- ", 100) + "y", fault(0, api.ErrDepth)},
		{"expr", times("a :: ", 150) + "y", fault(505, api.ErrDepth)},
		{"expr", times("a + ", 62) + "y", fault(0, api.OK)},
		{"expr", times("a + ", 150) + "y", fault(0, api.ErrDepth)}, // the tree
		{"expr", times("a + - (", 34) + "y" + times(")", 34), fault(33*7+4, api.ErrDepth)},
		{"expr", times("(", 63) + "y" + times(")", 63), fault(0, api.OK)},
		// A statement and the expression in it count.
		{"expr", times("{", 51) + times("}", 51), fault(0, api.OK)},
		{"expr", times("{", 52) + times("}", 52), fault(51, api.ErrDepth)},
		{"type", times("A => ", 150) + "B", fault(505, api.ErrDepth)},
		{"type", times("A[", 63) + "B" + times("]", 63), fault(0, api.OK)},
		{"type", times("A => ", 64) + "B", fault(0, api.ErrDepth)}, // the tree
		{"pattern", times("a @ ", 150) + "B", fault(404, api.ErrDepth)},
		{"pattern", times("A(", 63) + "B" + times(")", 63), fault(0, api.OK)},
		{"unit", "val x: " + times("A => ", 150) + "B", fault(7+505, api.ErrDepth)},
		{"unit", "def f = " + times("x => ", 60) + "(y: " + times("A => ", 60) + "B)", fault(8+300+4+200, api.ErrDepth)},
		// What is first from left to right is told, at one token ErrSyntax.
		{"expr", times("x => ", 101) + "y z", fault(505, api.ErrDepth)},
		{"expr", times("x => ", 101) + "match", fault(505, api.ErrSyntax)},
		{"expr", "(y z, " + times("x => ", 101) + "y)", fault(3, api.ErrSyntax)},
		{"pattern", times("a @ ", 101) + "=", fault(404, api.ErrSyntax)},
		{"pattern", "a: A | A[" + times("A => ", 100) + "1]", fault(9+500, api.ErrSyntax)},
		{"pattern", "a: A | A[" + times("A => ", 100) + "A]", fault(9+500, api.ErrDepth)},
	} {
		n, f := parse[c.kind](c.text)
		if f != c.want || f.Code != api.OK && !isZero(n) {
			t.Errorf("%s %.20q of %d: %v, want %v", c.kind, c.text, len(c.text), f, c.want)
		}
	}
}

// P3.3
func TestUnits(t *testing.T) {
	texts := strings.Split(strings.Repeat("val x;", 51), ";")[:51]
	if l, i, f := parser.Units(texts); l != nil || i != 0 || f != fault(0, api.ErrLimit) {
		t.Errorf("51 texts: %v, %d, %v", l, i, f)
	}
	l, i, f := parser.Units(texts[:50])
	if len(l) != 50 || i != 0 || f != fault(0, api.OK) {
		t.Errorf("50 texts: %v, %d, %v", l, i, f)
	}
	for _, n := range l {
		if form(n) != `(SUnit (SVal "x" (SMods) (SNone) (SNone)))` {
			t.Errorf("%s", form(n))
		}
	}
	if l, i, f := parser.Units(nil); len(l) != 0 || i != 0 || f != fault(0, api.OK) {
		t.Errorf("no texts: %v, %d, %v", l, i, f)
	}
	if l, i, f := parser.Units([]string{"", "val x", "val val", "val \""}); l != nil || i != 2 || f != fault(4, api.ErrSyntax) {
		t.Errorf("faults: %v, %d, %v", l, i, f)
	}
	texts[0] = "1"
	if l, i, f := parser.Units(texts); l != nil || i != 0 || f != fault(0, api.ErrLimit) {
		t.Errorf("the limit is told first: %v, %d, %v", l, i, f)
	}
}
