package desugar_test

import (
	"math/rand"
	"slices"
	"strconv"
	"strings"
	"testing"

	"newel/api"
	"newel/syntax"
)

// value is a bool, an int, a string, a list ([]value), a pair or a function.
type value any

type pair struct{ a, b value }

type function func(value) value

// scope is a list of names and their values, the last one first.
type scope struct {
	name  string
	of    value
	outer *scope
}

// failure is what leaves an evaluation that goes wrong.
type failure string

// evaluator evaluates trees with abbreviations and core trees: the former as
// one would explain them, without calls of map and so on.
type evaluator struct {
	log []string // what was printed
}

func (s *scope) get(name string) value {
	for ; s != nil; s = s.outer {
		if s.name == name {
			return s.of
		}
	}
	panic(failure("no " + name))
}

// eval evaluates an expression.
func (e *evaluator) eval(n syntax.Node, s *scope) value {
	switch n.Kind {
	case syntax.XInt:
		return int(n.Num)
	case syntax.XString:
		return n.Text
	case syntax.XTrue, syntax.XFalse:
		return n.Kind == syntax.XTrue
	case syntax.XUnit:
		return pair{}
	case syntax.XName:
		return s.get(n.Text)
	case syntax.XIf:
		if e.eval(n.Kids[0], s).(bool) {
			return e.eval(n.Kids[1], s)
		}
		if n.Kids[2].Kind == syntax.SNone {
			return pair{}
		}
		return e.eval(n.Kids[2], s)
	case syntax.XLambda:
		return function(func(v value) value {
			return e.eval(n.Kids[1], &scope{n.Kids[0].Text, v, s})
		})
	case syntax.XMatch:
		v := e.eval(n.Kids[0], s)
		return e.eval(n.Kids[1].Kids[2], bind(n.Kids[1].Kids[0], v, s))
	case syntax.XBlock:
		return e.block(n.Kids, s)
	case syntax.XApply:
		return e.apply(n, s)
	case syntax.XSelect:
		return operation(n.Text, e.eval(n.Kids[0], s))
	case syntax.XPrefix:
		return operation(n.Text, e.eval(n.Kids[0], s))
	case syntax.XInfix:
		return e.infix(n, s)
	case syntax.XInterp:
		text := ""
		for _, k := range n.Kids {
			text += show(e.eval(k, s))
		}
		return text
	case syntax.XFor:
		return e.loop(n, s)
	}
	panic("no meaning: " + syntax.Name(n.Kind))
}

func (e *evaluator) block(l []syntax.Node, s *scope) value {
	var v value = pair{}
	for _, n := range l {
		v = pair{}
		if n.Kind == syntax.SVal {
			s = &scope{n.Text, e.eval(n.Kids[2], s), s}
		} else {
			v = e.eval(n, s)
		}
	}
	return v
}

// infix evaluates the operands from left to right.
func (e *evaluator) infix(n syntax.Node, s *scope) value {
	a := e.eval(n.Kids[0], s)
	switch n.Text {
	case "&&":
		return a.(bool) && e.eval(n.Kids[1], s).(bool)
	case "||":
		return a.(bool) || e.eval(n.Kids[1], s).(bool)
	case "!=":
		return !operation("==", a, e.eval(n.Kids[1], s)).(bool)
	}
	b := e.eval(n.Kids[1], s)
	if strings.HasSuffix(n.Text, ":") {
		return operation(n.Text, b, a)
	}
	return operation(n.Text, a, b)
}

// apply evaluates the calls that texts and core trees have.
func (e *evaluator) apply(n syntax.Node, s *scope) value {
	f, args := n.Kids[0], n.Kids[1:]
	if f.Kind == syntax.XName && f.Text == "print" {
		v := e.eval(args[0], s)
		e.log = append(e.log, show(v))
		return v
	}
	if f.Kind == syntax.XName && f.Text == "Pair" {
		a := e.eval(args[0], s)
		return pair{a, e.eval(args[1], s)}
	}
	of := e.eval(f.Kids[0], s)
	arg := e.eval(args[0], s)
	g, isFunction := arg.(function)
	if !isFunction {
		return operation(f.Text, of, arg)
	}
	var out []value
	for _, v := range of.([]value) {
		switch w := g(v); f.Text {
		case "map":
			out = append(out, w)
		case "flatMap":
			out = append(out, w.([]value)...)
		case "withFilter":
			if w.(bool) {
				out = append(out, v)
			}
		case "foreach":
		default:
			panic("no member " + f.Text)
		}
	}
	if f.Text == "foreach" {
		return pair{}
	}
	return out
}

// loop evaluates a for expression as nested loops.
func (e *evaluator) loop(n syntax.Node, s *scope) value {
	var out []value
	var enumerate func(l []syntax.Node, s *scope)
	enumerate = func(l []syntax.Node, s *scope) {
		switch l[0].Kind {
		case syntax.SGenerator:
			for _, v := range e.eval(l[0].Kids[1], s).([]value) {
				enumerate(l[1:], bind(l[0].Kids[0], v, s))
			}
		case syntax.SBinding:
			enumerate(l[1:], bind(l[0].Kids[0], e.eval(l[0].Kids[1], s), s))
		case syntax.SGuard:
			if e.eval(l[0].Kids[0], s).(bool) {
				enumerate(l[1:], s)
			}
		default:
			out = append(out, e.eval(l[0], s))
		}
	}
	enumerate(n.Kids, s)
	if n.Num == 1 {
		return out
	}
	return pair{}
}

// bind returns a scope with what a pattern binds.
func bind(p syntax.Node, v value, s *scope) *scope {
	switch p.Kind {
	case syntax.PWild:
		return s
	case syntax.PBind:
		return bind(p.Kids[0], v, &scope{p.Text, v, s})
	case syntax.PTyped:
		if p.Text == "_" {
			return s
		}
		return &scope{p.Text, v, s}
	case syntax.PApply:
		two, ok := v.(pair)
		if !ok {
			panic(failure("no match"))
		}
		return bind(p.Kids[1], two.b, bind(p.Kids[0], two.a, s))
	case syntax.PLiteral:
		if v != value(int(p.Kids[0].Num)) {
			panic(failure("no match"))
		}
		return s
	}
	panic("no pattern: " + syntax.Name(p.Kind))
}

// operation evaluates a member of a value.
func operation(name string, args ...value) value {
	switch a := args[0].(type) {
	case bool:
		if name == "!" {
			return !a
		}
	case string:
		if name == "+" {
			return a + show(args[1])
		}
	case []value:
		if name == "::" || name == "+:" {
			return append([]value{args[1]}, a...)
		}
	case int:
		return number(name, a, args[1:])
	}
	panic(failure("no operation " + name))
}

func number(name string, a int, args []value) value {
	if len(args) == 0 {
		return -a
	}
	b, ok := args[0].(int)
	if !ok {
		panic(failure("no number"))
	}
	switch name {
	case "+":
		return a + b
	case "*":
		return a * b
	case "-:":
		return a - b
	case ">":
		return a > b
	case "==":
		return a == b
	}
	panic(failure("no operation " + name))
}

func show(v value) string {
	switch v := v.(type) {
	case bool:
		return strconv.FormatBool(v)
	case int:
		return strconv.Itoa(v)
	case string:
		return v
	case pair:
		return "(" + show(v.a) + "," + show(v.b) + ")"
	case []value:
		var l []string
		for _, w := range v {
			l = append(l, show(w))
		}
		return "[" + strings.Join(l, " ") + "]"
	}
	return "()"
}

// run evaluates a tree: the value, or what went wrong, and what was printed.
func run(n syntax.Node, s *scope) (result string, log []string) {
	e := &evaluator{}
	defer func() {
		if f, ok := recover().(failure); ok {
			result, log = "failed", nil
			_ = f
		}
	}()
	result = show(e.eval(n, s))
	return result, e.log
}

// writer makes random texts that have a meaning, mostly.
type writer struct {
	*rand.Rand
	ints, lists []string // names
}

func (w *writer) pick(l ...string) string { return l[w.Intn(len(l))] }

func (w *writer) int(depth int) string {
	if depth <= 0 {
		return w.pick(append([]string{"0", "1", "2"}, w.ints...)...)
	}
	switch w.Intn(7) {
	case 0:
		return "(" + w.int(depth-1) + w.pick(" + ", " * ", " -: ") + w.int(depth-1) + ")"
	case 1:
		return "(-" + w.int(depth-1) + ")"
	case 2:
		return "print(" + w.int(depth-1) + ")"
	case 3:
		return "(if (" + w.bool(depth-1) + ") " + w.int(depth-1) + " else " + w.int(depth-1) + ")"
	case 4:
		value := w.int(depth - 1)
		return w.inner(func() string {
			return "{ " + "val " + w.declare(&w.ints) + " = " + value + "; " + w.int(depth-1) + " }"
		})
	}
	return w.int(0)
}

func (w *writer) bool(depth int) string {
	if depth <= 0 {
		return w.pick("true", "false", w.int(0)+" > "+w.int(0))
	}
	switch w.Intn(4) {
	case 0:
		return "(" + w.bool(depth-1) + w.pick(" && ", " || ") + w.bool(depth-1) + ")"
	case 1:
		return "!(" + w.bool(depth-1) + ")"
	}
	return "(" + w.int(depth-1) + w.pick(" != ", " == ", " > ") + w.int(depth-1) + ")"
}

func (w *writer) list(depth int) string {
	if depth <= 0 {
		return w.pick(w.lists...)
	}
	if w.Intn(2) == 0 {
		return "(" + w.int(depth-1) + w.pick(" :: ", " +: ") + w.list(depth-1) + ")"
	}
	return "(" + w.loop(depth-1, "yield") + ")"
}

// declare makes a name known.
func (w *writer) declare(names *[]string) string {
	name := w.pick("x", "y", "_1", "_2", "_3")
	*names = append(slices.Clip(*names), name)
	return name
}

// inner makes a text in which more names are known than behind it.
func (w *writer) inner(text func() string) string {
	ints, lists := w.ints, w.lists
	out := text()
	w.ints, w.lists = ints, lists
	return out
}

func (w *writer) pattern() string {
	switch w.Intn(6) {
	case 0:
		return "_"
	case 1:
		return w.declare(&w.ints) + ": Int"
	case 2:
		return "_: Int"
	case 3:
		return w.declare(&w.ints) + " @ _"
	case 4:
		if w.Intn(4) == 0 {
			return "1"
		}
	}
	return w.declare(&w.ints)
}

func (w *writer) loop(depth int, kind string) string {
	return w.inner(func() string {
		from := w.list(depth - 1)
		text := "for { " + w.pattern() + " <- " + from
		for range w.Intn(5) {
			switch w.Intn(4) {
			case 0:
				from := w.list(depth - 1)
				text += "; " + w.pattern() + " <- " + from
			case 1:
				text += "; if " + strings.ReplaceAll(w.bool(depth-1), "print", " -") // guards are asked early
			case 2:
				a, b := w.int(0), w.int(0)
				text += "; Pair(" + w.pattern() + ", " + w.pattern() + ") = Pair(" + a + ", " + b + ")"
			default:
				value := strings.ReplaceAll(w.int(depth-1), "print", " -")
				text += "; " + w.pattern() + " = " + value
			}
		}
		return text + " } " + kind + " " + w.int(depth-1)
	})
}

// 1 to 5 of "What is replaced": what is made means what it is an abbreviation
// for, also where names like fresh ones are about.
func TestMeaning(t *testing.T) {
	w := &writer{Rand: rand.New(rand.NewSource(6))}
	var global *scope
	for name, v := range map[string]value{"xs": []value{1, 2, 3}, "_4": []value{2, 0}, "none": []value(nil)} {
		global = &scope{name, v, global}
		w.lists = append(w.lists, name)
	}
	slices.Sort(w.lists)
	right := 0
	for i := range 3000 {
		depth := 1 + w.Intn(5)
		text := w.loop(depth, "do")
		switch i % 4 {
		case 0:
			text = w.list(depth)
		case 1:
			text = "s\"" + "a${" + w.int(depth) + "}${" + w.bool(depth) + "}-${" + w.list(depth) + "}\""
		}
		n := parsed(t, "expr", text)
		out, f := checkCore(t, n)
		if f.Code != api.OK {
			if f.Code != api.ErrDepth {
				t.Fatalf("%v: %s", f, text)
			}
			continue
		}
		want, wantLog := run(n, global)
		got, log := run(out, global)
		if got != want || !slices.Equal(log, wantLog) {
			t.Fatalf("%s\n%s, %v\n%s, %v\n%s", text, got, log, want, wantLog, form(out))
		}
		if want != "failed" {
			right++
		}
	}
	if right < 1500 {
		t.Errorf("only %d", right)
	}
}
