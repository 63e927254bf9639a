package desugar_test

import (
	"testing"

	"newel/api"
	"newel/desugar"
	"newel/syntax"
)

// P5.2 and 1 to 6 of "What is replaced": both sides are texts of expressions.
func TestExpr(t *testing.T) {
	for _, c := range [][2]string{
		// 1. XInfix and XPrefix
		{"a + b", "a.+(b)"},
		{"a - b * c", "a.-(b.*(c))"},
		{"a == b", "a.==(b)"},
		{"a === b", "a.===(b)"},
		{"a <= b", "a.<=(b)"},
		{"a && b", "if (a) b else false"},
		{"a || b", "if (a) true else b"},
		{"a & b | c", "a.&(b).|(c)"},
		{"a && b || c && d", "if (if (a) b else false) true else if (c) d else false"},
		{"a != b", "(a.==(b)).!"},
		{"a + b != c || d", "if (a.+(b).==(c).!) true else d"},
		{"1 :: l", "{ val _1 = 1; l.::(_1) }"},
		{"a +: b +: c", "{ val _1 = a; ({ val _2 = b; c.+:(_2) }).+:(_1) }"},
		{"(a :: b) :: c", "{ val _1 = { val _2 = a; b.::(_2) }; c.::(_1) }"},
		{"a &&: b", "{ val _1 = a; b.&&:(_1) }"},
		{"-x", "x.-"},
		{"!a && ~b", "if (a.!) b.~ else false"},
		{"+ -1", "1.-.+"},
		{"-2L", "2L.-"},
		{"1 - -1", "1.-(1.-)"},
		// 2. XAssign
		{"x = 1", "x = 1"},
		{"a.b = c + d", "a.b = c.+(d)"},
		{"x += 1", "x = x.+(1)"},
		{"a.b *= c", "a.b = a.b.*(c)"},
		{"x &&= y", "x = if (x) y else false"},
		{"x !== y", "x = (x.==(y)).!"},
		{"x ::= y", "x = { val _1 = x; y.::(_1) }"},
		{"x <<= y", "x = x.<<(y)"},
		{"f(x) = e", "f.update(x, e)"},
		{"f() = e", "f.update(e)"},
		{"a.f(x, y)(z) = e + 1", "a.f(x, y).update(z, e.+(1))"},
		{"f(using x) = e", "f.update(x, e)"},
		{"f(x) += 1", "f.update(x, f(x).+(1))"},
		{"f(a :: b) ::= c", "f.update({ val _1 = a; b.::(_1) }, { val _2 = f({ val _3 = a; b.::(_3) }); c.::(_2) })"},
		{"f(-x) = g(y) = z", "f.update(x.-, g.update(y, z))"},
		{"f[A](x).y = z", "f[A](x).y = z"},
		// 3. XInterp
		{`s"a$b"`, `"a".+(b)`},
		{`s"abc"`, `"abc"`},
		{`s""`, `""`},
		{`s"$a"`, `"".+(a)`},
		{`s"$a$b"`, `"".+(a).+(b)`},
		{`s"$a-${b * c}!"`, `"".+(a).+("-").+(b.*(c)).+("!")`},
		{`s"${""}${"a"}"`, `"".+("a")`},
		{`s"x${s"y$z"}"`, `"x".+("y".+(z))`},
		// 5. XIf, XReturn, XBlock
		{"if (a) b", "if (a) b else ()"},
		{"if (a) b else if (c) d", "if (a) b else if (c) d else ()"},
		{"if (-a) -b else -c", "if (a.-) b.- else c.-"},
		{"return", "return ()"},
		{"return -1", "return 1.-"},
		{"{}", "{ () }"},
		{"{ a; b }", "{ a; b }"},
		{"{ val x = 1 }", "{ val x = 1; () }"},
		{"{ import a.*; var x: Int = 1; lazy val y = -x; x }", "{ import a.*; var x: Int = 1; lazy val y = x.-; x }"},
		{"{ a; import a.b }", "{ a; import a.b; () }"},
		{"'{ val x = 1 }", "'{ val x = 1; () }"},
		{"'{ ${ -x } }", "'{ ${ x.- } }"},
		// 6. SLambdaParam, and what stays
		{"_ => a", "_1 => a"},
		{"(_, x: A, _: B) => _ => x", "(_1, x: A, _2: B) => _3 => x"},
		{"try a catch case 1 => b", "try a catch case 1 => b"},
		{"try -a catch case -1 if !b => -c finally -d", "try a.- catch case -1 if b.! => c.- finally d.-"},
		{"x match { case -1 | -2L => -y; case a => }", "x match { case -1 | -2L => y.-; case a => { () } }"},
		{"while (a != b) x += 1", "while (a.==(b).!) x = x.+(1)"},
		{"throw -x", "throw x.-"},
		{"f(x = -1)(using -y)[T]", "f(x = 1.-)(using y.-)[T]"},
		{"new A(-1) with B { def f = -1; -2 }", "new A(1.-) with B { def f = 1.-; 2.- }"},
		{"(-x: A)", "(x.- : A)"},
		{"super.f + this.g", "super.f.+(this.g)"},
	} {
		checkExpr(t, c[0], c[1])
	}
}

func checkExpr(t *testing.T, from, to string) {
	t.Helper()
	out, f := desugar.Expr(parsed(t, "expr", from))
	if want := parsed(t, "expr", to); f.Code != api.OK || !syntax.Equal(out, want) {
		t.Errorf("%s: %v\n%s\n%s", from, f, form(out), form(want))
	}
}

// P5.2 and 4: for expressions. Names behind <- are free.
func TestFor(t *testing.T) {
	for _, c := range [][2]string{
		{"for { x <- xs; if x > 1 } yield x", "xs.withFilter(x => x.>(1)).map(x => x)"},
		{"for (x <- xs) yield -x", "xs.map(x => x.-)"},
		{"for (x <- xs) f(x)", "xs.foreach(x => f(x))"},
		{"for x: A <- -xs do x", "xs.-.foreach((x: A) => x)"},
		{"for (_ <- xs) yield a", "xs.map(_1 => _1 match { case _ => a })"},
		{"for (_: A <- xs) yield a", "xs.map(_1 => _1 match { case _: A => a })"},
		{"for (x @ (_: A) <- xs) yield x", "xs.map(_1 => _1 match { case x @ (_: A) => x })"},
		{"for (Some(x) <- xs) x", "xs.foreach(_1 => _1 match { case Some(x) => x })"},
		{"for (-1 <- xs) x", "xs.foreach(_1 => _1 match { case -1 => x })"},
		// a generator behind
		{"for { x <- xs; y <- ys } yield x + y", "xs.flatMap(x => ys.map(y => x.+(y)))"},
		{"for { x <- xs; y <- ys; z <- zs } f(x)", "xs.foreach(x => ys.foreach(y => zs.foreach(z => f(x))))"},
		{"for { A(x) <- xs; y: B <- ys; _ <- zs } yield x", "xs.flatMap(_1 => _1 match { case A(x) => ys.flatMap((y: B) => zs.map(_2 => _2 match { case _ => x })) })"},
		// guards
		{"for { x <- xs; if a; if !b } x", "xs.withFilter(x => a).withFilter(x => b.!).foreach(x => x)"},
		{"for { _ <- xs; if a; if b; y <- ys; if c } yield y", "xs.withFilter(_1 => _1 match { case _ => a }).withFilter(_2 => _2 match { case _ => b }).flatMap(_3 => _3 match { case _ => ys.withFilter(y => c).map(y => y) })"},
		// bindings
		{"for { x <- xs; y = -x } yield y", "xs.map(x => x.- match { case y => y })"},
		{"for { x <- xs; y = x; A(z) = y } f(z)", "xs.foreach(x => x match { case y => y match { case A(z) => f(z) } })"},
		{"for { x <- xs; y = a; z = b; w <- ws; v = c } yield v", "xs.flatMap(x => a match { case y => b match { case z => ws.map(w => c match { case v => v }) } })"},
		{"for { x <- xs; y = a; z = b; if c } yield d", "xs.withFilter(x => a match { case y => b match { case z => c } }).map(x => a match { case y => b match { case z => d } })"},
		{"for { x <- xs; y = a; if c; z = b; if d; w <- ws } e", "xs.withFilter(x => a match { case y => c }).withFilter(x => a match { case y => b match { case z => d } }).foreach(x => a match { case y => b match { case z => ws.foreach(w => e) } })"},
		{"for { x <- xs; if a; y = b; if c; if d } yield e", "xs.withFilter(x => a).withFilter(x => b match { case y => c }).withFilter(x => b match { case y => d }).map(x => b match { case y => e })"},
		{"for { A(x) <- xs; y = a; if c; B(z) <- zs } yield d", "xs.withFilter(_1 => _1 match { case A(x) => a match { case y => c } }).flatMap(_2 => _2 match { case A(x) => a match { case y => zs.map(_3 => _3 match { case B(z) => d }) } })"},
		// for expressions inside
		{"for (x <- for (y <- ys) yield y) for (z <- x) z", "ys.map(y => y).foreach(x => x.foreach(z => z))"},
	} {
		checkExpr(t, c[0], c[1])
	}
}

// P5.1 and P5.2: fresh names are taken node by node in preorder, all those of
// a for expression ahead of those inside of it, and copies have their own.
func TestFreshOrder(t *testing.T) {
	for _, c := range [][2]string{
		{"f(a :: b, _ => c :: d)", "f({ val _1 = a; b.::(_1) }, _2 => { val _3 = c; d.::(_3) })"},
		{"(a :: b).c :: (d :: e)", "{ val _1 = ({ val _2 = a; b.::(_2) }).c; ({ val _3 = d; e.::(_3) }).::(_1) }"},
		{"for { A(x) <- a :: b; B(y) <- c } yield _ => d", "({ val _3 = a; b.::(_3) }).flatMap(_1 => _1 match { case A(x) => c.map(_2 => _2 match { case B(y) => _4 => d }) })"},
		{"for { _ <- a :: b; if c :: d } e", "({ val _3 = a; b.::(_3) }).withFilter(_1 => _1 match { case _ => { val _4 = c; d.::(_4) } }).foreach(_2 => _2 match { case _ => e })"},
		{"for { x <- a; y = b :: c; if d } e", "a.withFilter(x => ({ val _1 = b; c.::(_1) }) match { case y => d }).foreach(x => ({ val _2 = b; c.::(_2) }) match { case y => e })"},
		// names that occur in the tree as the Text of any node are skipped
		{"_1 :: _3 :: a", "{ val _2 = _1; ({ val _4 = _3; a.::(_4) }).::(_2) }"},
		{`f("_1", c._3, (x: _4) => y, _2 = b)(a :: b)`, `f("_1", c._3, (x: _4) => y, _2 = b)({ val _5 = a; b.::(_5) })`},
		{"x match { case _1 => _ => a; case _3() => _ => a }", "x match { case _1 => _2 => a; case _3() => _4 => a }"},
		{"{ import _1; import _2.a; _ => a }", "{ import _1; import _2.a; _2 => a }"},
		{"_01 + __1 :: a", "{ val _1 = _01.+(__1); a.::(_1) }"},
	} {
		checkExpr(t, c[0], c[1])
	}
}
