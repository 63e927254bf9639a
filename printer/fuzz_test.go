package printer_test

import (
	"testing"

	"newel/api"
	"newel/printer"
	"newel/syntax"
)

// program is a text in both syntaxes, which has a bit of everything.
const program = `import a.b.*;
sealed trait Shape[+A] extends B(1) with C:
  type T >: A <: this.type;
  def area: Int // c
case class Rect(w: Int, val h: => Int = { 1 })(using o: Int*) extends Shape { -w; - -w }
enum Opt[+A]:
  case Some(value: A) extends Opt[A]
  case None, Never
  def +
;given Ord[Int] = new Ord[Int]:
  def less(a: Int, b: Int): Boolean = a < b
given ord[T](using o: Ord[T]): Ord[List[T]] = o
extension (a: Int):
  def twice = a + a :: b * -c
  private def thrice: a.type =
    val b = twice
    { c }.d
type Elem[X[_]] = X match
  case Int => (A, B) => String
  case List[_ <: A] => [Y] =>> Y & (A | B)
object Main:
  def f(s: Shape): Int = s match
    case Rect(w, _) | a.B if w > (x => h) =>
      w
      return
    case x @ (_: A | 'c') => return; case _: A | _: B => if a then (if b then c) else d
  lazy val x = try (try a finally b) catch case 1 => throw c finally
    for x <- xs if y; z = s"$x ${y + "\n"}$this" yield '{ ${ x } + 1L }
    while i < n do
      i += 1
      f((c = d), a = b)(using e) { (x: A, _) => () }[T].y = (z: A => B)
`

// FuzzFormat checks the texts of the trees of any texts, and their words.
func FuzzFormat(f *testing.F) {
	f.Add(0, program)
	c := newChooser(5)
	for i := range 400 {
		f.Add(i, c.text([]string{"unit", "expr", "type", "pattern"}[i%4], 4+i%8))
	}
	f.Fuzz(func(t *testing.T, i int, text string) {
		checkWords(t, text)
		kind := []string{"unit", "expr", "type", "pattern"}[uint(i)%4]
		n, fault := parse[kind](text)
		if fault.Code == api.OK && len(text) <= 1500 && syntax.Depth(n) <= 30 {
			checkPrinted(t, n)
		}
		if kind != "unit" {
			return
		}
		if fault.Code == api.OK && len(text) <= 1500 && syntax.Depth(n) <= 30 {
			checkFormats(t, text)
		} else if _, g := printer.Format(text, i&1); fault.Code != api.OK && g != fault {
			t.Errorf("Format(%q): %v, want %v", text, g, fault)
		}
	})
}
