package printer_test

import (
	"strings"
	"testing"

	"newel/api"
	"newel/parser"
	"newel/printer"
)

// The examples of the chapter.
func TestExamples(t *testing.T) {
	text, f := printer.Format("class A { def f(x: Int): Int = { x + 1 } }", printer.Indented)
	if want := "class A:\n  def f(x: Int): Int =\n    x + 1\n"; text != want || f != (api.Fault{}) {
		t.Errorf("%q, %v, want %q", text, f, want)
	}
	for style := range printer.Styles {
		text, code := printer.Print(tree(t, `(XInfix "+" (XInt 1) (XInfix "+" (XInt 2) (XInt 3)))`), style)
		if text != "1 + (2 + 3)" || code != api.OK {
			t.Errorf("%q, %v", text, code)
		}
		if text, code := printer.Print(tree(t, "(XSuper)"), style); text != "" || code != api.ErrForm {
			t.Errorf("%q, %v", text, code)
		}
	}
}

const programInBraces = `import a.b.*;
sealed trait Shape[+A] extends B(1) with C {
  type T >: A <: this.type;
  def area: Int
}
case class Rect(w: Int, val h: => Int = { 1 })(using o: Int*) extends Shape {
  -w
  -(-w)
}
enum Opt[+A] {
  case Some(value: A) extends Opt[A]
  case None
  case Never
  def +
}
given Ord[Int] = new Ord[Int] {
  def less(a: Int, b: Int): Boolean = a < b
}
given ord[T](using o: Ord[T]): Ord[List[T]] = o
extension (a: Int) {
  def twice = a + a :: b * -c
  private def thrice: a.type = {
    val b = twice
    { c }.d
  }
}
type Elem[X[_]] = X match {
  case Int => (A, B) => String
  case List[_ <: A] => [Y] =>> Y & (A | B)
}
object Main {
  def f(s: Shape): Int = s match {
    case Rect(w, _) | a.B if w > (x => h) => {
      w
      return
    }
    case x @ ((_: A) | 'c') => return;
    case (_: A) | (_: B) => if (a) (if (b) c) else d
  }
  lazy val x = try try a finally b catch {
    case 1 => throw c
  } finally {
    for (x <- xs; if y; z = s"$x ${y + "\n"}$this") yield '{ ${ x } + 1L }
    while (i < n) {
      i += 1
      f((c = d), a = b)(using e) { (x: A, _) => () }[T].y = (z: A => B)
    }
  }
}
`

const programIndented = `import a.b.*;
sealed trait Shape[+A] extends B(1) with C:
  type T >: A <: this.type;
  def area: Int
case class Rect(w: Int, val h: => Int = { 1 })(using o: Int*) extends Shape:
  -w
  -(-w)
enum Opt[+A]:
  case Some(value: A) extends Opt[A]
  case None
  case Never
  def +
;
given Ord[Int] = new Ord[Int] {
  def less(a: Int, b: Int): Boolean = a < b
}
given ord[T](using o: Ord[T]): Ord[List[T]] = o
extension (a: Int):
  def twice = a + a :: b * -c
  private def thrice: a.type =
    val b = twice
    { c }.d
type Elem[X[_]] = X match {
  case Int => (A, B) => String
  case List[_ <: A] => [Y] =>> Y & (A | B)
}
object Main:
  def f(s: Shape): Int = s match {
    case Rect(w, _) | a.B if w > (x => h) => {
      w
      return
    }
    case x @ ((_: A) | 'c') => return;
    case (_: A) | (_: B) => if (a) (if (b) c) else d
  }
  lazy val x = try try a finally b catch {
    case 1 => throw c
  } finally {
    for (x <- xs; if y; z = s"$x ${y + "\n"}$this") yield '{ ${ x } + 1L }
    while (i < n) {
      i += 1
      f((c = d), a = b)(using e) { (x: A, _) => () }[T].y = (z: A => B)
    }
  }
`

// P4.1, P4.2: the text of a program in both styles.
func TestProgram(t *testing.T) {
	for style, want := range []string{programInBraces, programIndented} {
		text, f := printer.Format(program, style)
		if text != want || f != (api.Fault{}) {
			t.Errorf("%s, %v:\n%s", styleNames[style], f, text)
		}
	}
	n, f := parser.Parse(program)
	if f.Code != api.OK {
		t.Fatal(f)
	}
	checkPrinted(t, n)
	checkFormats(t, program)
}

// units are texts with their forms in both styles.
var units = []struct{ source, braces, indented string }{
	{"val x", "val x¶", "val x¶"},
	{";;val x;;var y: A;  lazy   val z=1;", "val x¶var y: A¶lazy val z = 1¶", "val x¶var y: A¶lazy val z = 1¶"},
	{
		"class A{}; trait B{;}; object C{x}; case object D",
		"class A {}¶trait B {}¶object C {¶  x¶}¶case object D¶",
		"class A {}¶trait B {}¶object C:¶  x¶case object D¶",
	},
	{
		"val x={}; val y={{}}; def f={a}; given A={b;c}; given B={}",
		"val x = {}¶val y = { {} }¶def f = { a }¶given A = {¶  b¶  c¶}¶given B = {}¶",
		"val x = {}¶val y =¶  {}¶def f =¶  a¶given A =¶  b¶  c¶given B = {}¶",
	},
	{
		"def f={def g={a};b}; def h={class A{val x={c}}}",
		"def f = {¶  def g = { a }¶  b¶}¶def h = {¶  class A {¶    val x = { c }¶  }¶}¶",
		"def f =¶  def g =¶    a¶  b¶def h =¶  class A:¶    val x =¶      c¶",
	},
	{
		"extension(a:A){def f={b};def g}; extension[A](a:A)private def f={b}",
		"extension (a: A) {¶  def f = { b }¶  def g¶}¶extension [A](a: A) private def f = { b }¶",
		"extension (a: A):¶  def f =¶    b¶  def g¶extension [A](a: A) private def f =¶  b¶",
	},
	{
		"def f(a:A={b;c})={d}; class A(a:A={b}) extends B({c}){d}",
		"def f(a: A = {¶  b¶  c¶}) = { d }¶class A(a: A = { b }) extends B({ c }) {¶  d¶}¶",
		"def f(a: A = {¶  b¶  c¶}) =¶  d¶class A(a: A = { b }) extends B({ c }):¶  d¶",
	},
	{
		"def f=g{val x={a};b}; val y=new A{def f={a}}",
		"def f = g {¶  val x = { a }¶  b¶}¶val y = new A {¶  def f = { a }¶}¶",
		"def f = g {¶  val x = { a }¶  b¶}¶val y = new A {¶  def f = { a }¶}¶",
	},
	{
		"enum A{case B,C;case D[+E](e:E) extends F;case class G;case B}",
		"enum A {¶  case B¶  case C¶  case D[+E](e: E) extends F¶  case class G¶  case B¶}¶",
		"enum A:¶  case B¶  case C¶  case D[+E](e: E) extends F¶  case class G¶  case B¶",
	},
	// no line ends behind these statements, or another one begins in it
	{
		"object A{import a.*;val x:a.type;def +;a.+;-a};import b.*;val y",
		"object A {¶  import a.*;¶  val x: a.type;¶  def +;¶  a.+;¶  -a¶}¶import b.*;¶val y¶",
		"object A:¶  import a.*;¶  val x: a.type;¶  def +;¶  a.+;¶  -a¶import b.*;¶val y¶",
	},
	{
		"object A{object B{import a.*};object C{val x:a.type}};def f={return;return};def g={a.+}",
		"object A {¶  object B {¶    import a.*¶  }¶  object C {¶    val x: a.type¶  }¶}¶def f = {¶  return;¶  return¶}¶def g = { a.+ }¶",
		"object A:¶  object B:¶    import a.*¶  ;¶  object C:¶    val x: a.type¶;¶def f =¶  return¶  return¶def g =¶  a.+¶",
	},
	{
		"def f=a match{case b=>return case c=>(new d.type)case e=>f.+ case _=>}",
		"def f = a match {¶  case b => return;¶  case c => new d.type;¶  case e => f.+;¶  case _ => {}¶}¶",
		"def f = a match {¶  case b => return;¶  case c => new d.type;¶  case e => f.+;¶  case _ => {}¶}¶",
	},
	{
		"type A=B match{case C=>a.type;case D=>E}",
		"type A = B match {¶  case C => a.type;¶  case D => E¶}¶",
		"type A = B match {¶  case C => a.type;¶  case D => E¶}¶",
	},
	{"val x=s\"${{a;b}}\"+{c;d}", "val x = s\"${{ a; b }}\" + {¶  c¶  d¶}¶", "val x = s\"${{ a; b }}\" + {¶  c¶  d¶}¶"},
	{"def + :A=b; def -(a:A); def *[A]=c; def ! ", "def + : A = b¶def -(a: A)¶def *[A] = c¶def !¶", "def + : A = b¶def -(a: A)¶def *[A] = c¶def !¶"},
}

// P4.1, P4.2: which blocks are written by indentation, and what stands behind
// statements with which no line ends.
func TestUnits(t *testing.T) {
	for _, c := range units {
		for style, want := range []string{c.braces, c.indented} {
			want = strings.ReplaceAll(want, "¶", "\n")
			if text, f := printer.Format(c.source, style); text != want || f != (api.Fault{}) {
				t.Errorf("%q, %s: %v\n%q, want\n%q", c.source, styleNames[style], f, text, want)
			}
		}
		n, _ := parser.Parse(c.source)
		checkPrinted(t, n)
		checkFormats(t, c.source)
	}
	for style := range printer.Styles {
		if text, f := printer.Format(" ; // c", style); text != "" || f != (api.Fault{}) {
			t.Errorf("%q, %v", text, f)
		}
	}
}

// lines are texts of expressions, types and patterns as Line writes them.
var lines = map[string][]string{
	"expr": {
		"a", "1", "2147483647", "0L", "'a'", `'\''`, `'\n'`, `'\x7b'`, `'\xff'`, `""`, `"a\"\n\t\\'$\x00"`, "true", "false", "null", "()", "this",
		"super.a", "super[A].+", "a.b.+.c", "1.a", "a.+(b)", "a()", "a(b, c = d, e = f)", "a(using b)", "a(using)", "a((b = c), (d = e) = f, g.h = i)",
		"a { b }", "a { b } { c }", "a({ b }, c)", "a(using { b })", "a {}", "{ a } { b }", "a[A, B](c)", "(new A).b", "(new A)(b)", "(new A)[B]",
		"a + b + c", "a + (b + c)", "(a + b) * c", "a + b * c", "a :: b :: c", "(a :: b) :: c", "(a + b) +: c", "a + (b +: c)", "a < b :: c + d * e ~ f",
		"-a", "-(-a)", "-(- -a)", "!(~ -a)", "(-a).b", "-a.b", "-(a + b)", "a - -b", "-(new A)", "new A + new B", "-1",
		"a = b", "a += b = c", "(a = b) = c", "a + (b = c)", "a match { case b => c } = d",
		`s""`, `s"a$b ${c}d$this${e + f}\"\$"`, `s"${s"$a"}${{ a; b }}"`, `s"$a$b"`, `s"${a}1$b.c"`,
		"if (a) b", "if (a) b else c", "if (a) if (b) c", "if (a) (if (b) c) else d", "if (a) if (b) c else d else e", "if (a) b else if (c) d",
		"if (a) (b => while (c) if (d) e) else f", "if (a) (if (b) c else if (d) e) else f", "if (a) try b else c", "(if (a) b) + c", "if (if (a) b) c",
		"while (a) b", "while (a) { b; c }", "for (a <- b) do c", "for (a <- b; c = d; if e; f <- g) yield h", "for (a: A | B <- b) do c",
		"a match { case b => c }", "a match { case b => c; case d if e => f }", "a match { case b => {} } match { case c => {} }", "(a match { case b => c }) + d",
		"a match { case b if (c match { case d => e }) => f }", "a match { case b if (c => d) => e => f }", "a match { case b if c => if (d) e; case f => g }",
		"a match { case b => { c; d } }", "a match { case b => { c }; case d => { val e } }",
		"try a", "try a catch { case b => c }", "try a catch { case b => c } finally d", "try a finally b", "try (try a) finally b", "try (try a) catch { case b => c }",
		"try try a finally b finally c", "try (if (a) try b) finally c", "try try a", "try a finally try b", "(try a) + b", "try if (a) b catch { case c => d }",
		"throw a", "return", "return a", "(return) + a", "throw return", "a => b", "_ => a", "() => a", "(a, b) => c", "(a: A) => b", "(_, a: A | B, c: (A => B)) => d",
		"a => b => c", "(a => b)(c)", "a(b => c, d)", "a = b => c", "{}", "{ a }", "{ a; {}; val b = { c } }", "{ a }.b", "{ { a } }",
		"new A", "new A()", "new A(a = b)", "new A with B(a) with c.type", "new A {}", "new A { a; def b = c }", "new (A => B)", "new A[B]",
		"(a: A)", "(a.+ : A => B)", "(a => b: A)", "((a: A): B)", "(return: A)", "(a: A).b", "'{ a }", "'{ a; b }", "${ a }", "'{ ${ a } + b }", "'{}", "-'{ a }",
		"{ import a.*; def b[A, +B, -C[_, _] >: D <: E](c: F, inline d: => G = h)(using val e: H*): I = j; class K extends L(a) with M { n } }",
		"{ final private case class A; case object B {}; enum C { case D } }", "{ type A; type B >: C <: D; type E[F] = G; type H <: I }",
		"{ given A = a; given b: A = c; given d[B](using e: B): C[B] = f; given a.type & B = c }", "{ extension (a: A) def b = c; extension [A](a: A) { def +; def c } }",
	},
	"type": {
		"A", "a.B", "a.b.C", "this.A", "this.a.B", "a.type", "this.type", "this.a.type", "A[B]", "A[B][C, D]", "a.B[C]", "(A & B)[C]", "a.type[B]",
		"A => B", "() => A", "(A, B) => C", "A => B => C", "(A => B) => C", "A | B => C", "((A => B) => C) => D", "(A => B, C) => D",
		"A & B & C", "A & (B & C)", "A | B | C", "A | (B | C)", "A | B & C", "(A | B) & C", "(A => B) & C", "A & (B => C)", "A | ([B] =>> C)",
		"A[_]", "A[_ >: B <: C, _ <: D]", "A[_ >: B]", "A[B => C]", "[A] =>> B", "[+A, -B[_], C >: D <: E] =>> F => G",
		"A match { case B => C }", "A match { case B | C => D => E; case F => G match { case H => I } }", "(A match { case B => C }) match { case (D => E) => F }",
		"A => B match { case C => D }", "(A => B) match { case C => D }", "A | B match { case C => D }", "(A match { case B => C }) => D",
	},
	"pattern": {
		"_", "a", "_a", "A", "a.b", "A.b.C", "A @ _", "a @ b.c", "a @ A(b)", "a @ (b | c)", "_: A", "a: A | B", "A: (A => B)", "a @ _: A", "(_: A) | b", "a | (_: A) | (b @ _: C)",
		"a | 1 | -1 | b @ 2", "1", "-1L", "-2147483647", "'a'", `"a"`, "true", "false", "null", "()", "A()", "a(b, _)", "a.B(c | d, e: E)", "a: a.type", "A(b @ C(d))",
	},
}

// P4.3: texts that Line returns as they are.
func TestLines(t *testing.T) {
	for kind, list := range lines {
		for _, want := range list {
			n, f := parse[kind](want)
			if f.Code != api.OK {
				t.Errorf("%s %q: %v", kind, want, f)
				continue
			}
			checkPrinted(t, n)
			if text, code := printer.Line(n); text != want || code != api.OK {
				t.Errorf("Line(%s): %q, %v, want %q", form(n), text, code, want)
			}
		}
	}
}
