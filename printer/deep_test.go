package printer_test

import (
	"math/rand"
	"strings"
	"testing"

	"newel/api"
	"newel/printer"
	"newel/syntax"
)

// wraps are what a text may stand in, where % is: expressions, types and
// patterns in such ones.
var wraps = map[string][]string{
	"expr": {
		"{%}", "{%;a}", "{a;%}", "{val a=%}", "{val a={%}}", "{def f={%;a}}", "{class A{%}}", "{object A{def f={%}}}", "{given A=%}",
		"{enum A{case B;%}}", "{extension(a:A){def f=%;def g}}", "{def f(a:A=%)}", "{class A(a:A=%)}", "{class A extends B(%)}",
		"(%).a", "(%).+", "f(%)", "(%)(a)", "f(a,b=%)", "f(a=(%))", "f(using %)", "f((a=%))", "f{%}", "(%){a}", "(%)[A]",
		"a+(%)", "(%)+a", "a::(%)", "(%)::a", "a*(%)", "a+b*(%)", "-(%)", "- -(%)", "!(%)", "a=%", "(%)=a", "a+=%",
		"s\"${%}\"", "s\"a${%}b$c\"", "if(%)a", "if(a)(%)", "if(%)a else b", "if(a)(%)else b", "if(a)b else %", "while(%)a", "while(a)%",
		"for(a<-%)b", "for(a<-b;c=%)d", "for(a<-b if %)yield c", "for{a<-b}%", "for{a<-b}yield %",
		"(%)match{case a=>b}", "a match{case b=>%}", "a match{case b=>%;c}", "a match{case b=>{%}case c=>d}", "a match{case b if(%)=>c}",
		"a match{case b if a+(%)=>c}", "try %", "try(%)catch{case a=>b}", "try a catch case b=>%", "try(%)finally a", "try a finally %",
		"try a catch{case b if(%)=>c}finally d", "throw %", "return %", "a=>%", "(a:A,_)=>%", "()=>%",
		"new A(%)", "new A{%}", "(new A(%)).a", "(new A{%})(a)", "-new A(%)", "(%:A)", "'{%}", "${%}", "'{${%}}",
	},
	"type": {
		"(%)=>A", "A=>%", "(A,%)=>B", "(%,A)=>B", "((%)=>A)=>B", "(%)&A", "A&(%)", "(%)|A", "A|(%)", "A[%]", "(%)[A]", "A[_<:%]", "A[_>:%]",
		"[A]=>>%", "[A>:%]=>>B", "[A<:%]=>>B", "(%)match{case A=>B}", "A match{case(%)=>B}", "A match{case B=>%;case C=>D}", "A&([B]=>>%)",
		"A|(B match{case C=>%})", "A&((%)=>B)",
	},
	"pattern": {"A(%)", "A(b,%)", "a@(%)", "A@(%)", "(%)|a", "a|(%)", "a|b@(%)"},
}

// across are what a type or a pattern may stand in to make an expression.
var across = map[string][]string{
	"type":    {"(a:%)", "a[%]", "(a:(%))=>b", "new(%)", "{val a:%}", "{type A=%}", "{type A<:%}", "{def f[A<:%](a:%):A}", "a match{case b:(%)=>c}", "{class A(a:%)extends(%)}", "{given %={a}}"},
	"pattern": {"a match{case %=>b}", "for(%<-a)b", "for(a<-b;%=c)d", "try a catch case %=>b"},
}

// wrapped returns a text that is nested by random wraps as deep as a text may
// be that must be printed.
func wrapped(r *rand.Rand, kind string) (string, syntax.Node) {
	inner := map[string]string{"expr": "x", "type": "X", "pattern": "X"}[kind]
	n, _ := parse[kind](inner)
	few := wraps[kind]
	if r.Intn(3) == 0 { // a few of them again and again
		few = []string{few[r.Intn(len(few))], few[r.Intn(len(few))]}
	}
	for tries := 0; tries < 40; tries++ {
		next, wrap := kind, few[r.Intn(len(few))]
		if kind != "expr" && r.Intn(30) == 0 {
			next, wrap = "expr", across[kind][r.Intn(len(across[kind]))]
			few = wraps["expr"]
		}
		text := strings.ReplaceAll(wrap, "%", inner)
		m, f := parse[next](text)
		if f.Code != api.OK || len(text) > 1500 || syntax.Depth(m) > 30 {
			continue
		}
		kind, inner, n = next, text, m
	}
	return inner, n
}

// P4.1: every tree of a text of at most 1500 bytes that is nested at most 30
// deep has texts.
func TestDeepTrees(t *testing.T) {
	r := rand.New(rand.NewSource(4))
	deep := 0
	for i := range 800 {
		_, n := wrapped(r, []string{"expr", "expr", "type", "pattern"}[i%4])
		checkPrinted(t, n)
		if kindOf(n) == "expr" {
			checkPrinted(t, tree(t, `(SUnit (SVal "x" (SMods) (SNone) (XInt 1)) (SDef "f" (SMods) (SNames) (SLists) (SNone) `+form(n)+"))"))
		}
		if syntax.Depth(n) >= 29 {
			deep++
		}
	}
	if deep < 300 {
		t.Errorf("only %d trees are deep", deep)
	}
}

// P4.1: each wrap in itself, up to the limits.
func TestOneWrap(t *testing.T) {
	for kind, list := range wraps {
		for _, wrap := range list {
			inner := map[string]string{"expr": "x", "type": "X", "pattern": "X"}[kind]
			for level := 0; ; level++ {
				text := strings.ReplaceAll(wrap, "%", inner)
				n, f := parse[kind](text)
				if f.Code != api.OK || len(text) > 1500 || syntax.Depth(n) > 30 {
					if level == 0 {
						t.Errorf("%q has a fault", text)
					}
					break
				}
				inner = text
				checkPrinted(t, n)
			}
		}
	}
}

// P4.1: many lines that are deep inside of braces are written in few ones, if
// they would take too much room otherwise.
func TestWideBlocks(t *testing.T) {
	for _, c := range []struct {
		deep, count int
		statement   string
		lines       bool
	}{
		{20, 100, "{a;b};", true},
		{27, 100, "{a;b};", true},
		{25, 190, "{{{a;b};a};a};", false},
		{25, 190, "def f={{a;b};{a;b};c};", false},
	} {
		text := strings.Repeat("{", c.deep) + strings.Repeat(c.statement, c.count) + strings.Repeat("}", c.deep)
		n, f := parse["unit"]("def f=" + text + ";class A { def g=" + text + "}")
		if f.Code != api.OK {
			t.Fatal(f)
		}
		for style := range printer.Styles {
			out, code := printer.Print(n, style)
			if code != api.OK {
				t.Fatalf("%s: %v", styleNames[style], code)
			}
			checkText(t, n, style, out)
			if got := strings.Count(out, "\n") > 200; got != c.lines {
				t.Errorf("%s: %v lines", styleNames[style], got)
			}
		}
	}
}
