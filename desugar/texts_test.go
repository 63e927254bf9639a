package desugar_test

import (
	"math/rand"
	"slices"
	"strings"
	"testing"

	"newel/api"
	"newel/parser"
	"newel/syntax"
)

// rules make texts. "x" is x, [ x ] may be missing, { x } stands up to three
// times, between ( and ) one of several parts is taken, x % y is x, and
// perhaps y and another x. Other words in capitals are names and literals.
// Many of the texts that they make have faults.
const rules = `
unit = { definition ";" }
mods = "" | "" | "" | "private" | "final override" | "abstract sealed" | "inline" | "volatile"
definition = "import" path [ ".*" ] | mods class | mods "def" id tparams lists [ ":" type ] [ "=" expr ] | mods ( "val" | "var" | "lazy val" ) NAME [ ":" type ] [ "=" expr ] | mods "type" NAME tparams ( [ ">:" type ] [ "<:" type ] | "=" type ) | mods "given" [ NAME tparams lists ":" ] type "=" expr | "extension" tparams "(" param ")" ( def | "{" def { ";" def } "}" )
def = mods "def" id tparams lists [ ":" type ] [ "=" expr ]
class = ( "class" | "case class" | "trait" ) NAME tparams lists parents [ body ] | ( "object" | "case object" ) NAME parents [ body ] | "enum" NAME tparams lists parents "{" { enumstatement ";" } "}"
body = "{" { statement ";" } "}"
enumstatement = "case" NAME tparams lists parents | "case" NAME "," NAME | statement
parents = "" | "extends" parent % "with"
parent = simpletype [ "(" [ expr % "," ] ")" ]
id = NAME | NAME | OP
path = NAME | NAME "." NAME | "a.b.c"
tparams = "" | "" | "[" tparam % "," "]"
tparam = ( "" | "+" | "-" ) NAME [ "[" "_" % "," "]" ] [ ">:" type ] [ "<:" type ]
lists = "" | { "(" [ "using" ] [ param % "," ] ")" }
param = mods ( "" | "val" | "var" ) NAME ":" ( "=>" type | type [ "*" ] ) [ "=" expr ]
type = simpletype | "(" [ type % "," ] ")" "=>" type | ortype "=>" type | "[" tparam % "," "]" "=>>" type | ortype "match" "{" tcase % ";" "}" | ortype
tcase = "case" ortype "=>" type
ortype = andtype | andtype "|" andtype | andtype "|" andtype "|" andtype
andtype = simpletype | simpletype "&" simpletype | simpletype "&" simpletype "&" simpletype
simpletype = NAME | path ".type" | "this.type" | "this." path | path | "(" type ")" | simpletype "[" typearg % "," "]"
typearg = "_" [ ">:" type ] [ "<:" type ] | type
statement = definition | expr | expr
block = "{" { statement ";" } "}"
expr = operation | lambda | "if (" expr ")" expr | "if (" expr ")" expr "else" expr | "if" expr "then" expr "else" expr | "while (" expr ")" expr | "while" expr "do" expr | for | "try" expr [ "catch" cases ] [ "finally" expr ] | "throw" expr | "return" [ expr ] | operation ( "=" | "+=" | "::=" ) expr
lambda = ( NAME | "_" ) "=>" expr | "(" [ lparam % "," ] ")" "=>" expr
lparam = ( NAME | "_" ) [ ":" ortype ]
for = "for {" enums "}" ( "yield" | "do" | "" ) expr | "for (" enums ")" expr | "for" enums ( "yield" | "do" ) expr
enums = pattern "<-" expr { ( ";" pattern ( "<-" | "=" ) expr | ( ";" | "" ) "if" expr ) }
cases = "{" case { case } "}" | case
case = "case" pattern [ "if" expr ] "=>" ( block | statement | statement ";" statement | "" )
operation = infix | infix | infix "match {" case { case } "}" | infix "match {" case "} match {" case "}"
infix = prefix | prefix | prefix INFIX prefix | prefix INFIX prefix INFIX prefix | prefix INFIX prefix INFIX prefix INFIX prefix
prefix = simple | simple | ( "-" | "!" | "~" | "+" ) prefix
simple = atom | atom | simple "." id | simple "[" type % "," "]" | simple "(" [ "using" ] [ arg % "," ] ")" | simple block
arg = expr | expr | NAME "=" expr
atom = LITERAL | NAME | NAME | "this" | "super" [ "[" NAME "]" ] "." id | "new" parent % "with" [ body ] | "(" expr ")" | "(" expr ")" | "(" expr ":" type ")" | block | "'" block | "$" block | interp
interp = "s\"\"" | "s\"a" "$b " "\"" | "s\"${" expr "}b$" NAME "$this" "c\""
pattern = one | one | one "|" one
one = "_" [ ":" ortype ] | LITERAL | "-" ( "1" | "2L" ) | "(" pattern ")" | NAME "@" one | NAME ":" ortype | path [ "(" [ pattern % "," ] ")" ]
`

// samples are the words for the tokens of a kind.
var samples = map[string][]string{
	"NAME":    {"a", "b", "x", "A", "B", "_1", "_2", "_4"},
	"OP":      {"+", "-", "::", "==", "*", "!", "<=", "/"},
	"INFIX":   {"+", "-", "*", "::", "==", "|", "&&", "+:", "*:", "<", "^:", "~", "?"},
	"LITERAL": {"0", "2147483647", "1L", "'c'", "'\\n'", "'\\x7b'", "\"\"", "\"s\\\"{\\\\\"", "\"\\xff\\t\"", "true", "false", "null", "()"},
}

// chooser makes texts by rules.
type chooser struct {
	*rand.Rand
	rules map[string][]string // the words of each rule
	out   []string
}

func newChooser(seed int64) *chooser {
	c := &chooser{Rand: rand.New(rand.NewSource(seed)), rules: map[string][]string{}}
	for _, line := range strings.Split(strings.TrimSpace(rules), "\n") {
		name, rest, _ := strings.Cut(line, " = ")
		c.rules[name] = pieces(rest)
	}
	return c
}

// pieces divides a rule into words; those in quotes may have blanks inside.
func pieces(rule string) []string {
	var words []string
	for rule != "" {
		end := strings.IndexByte(rule+" ", ' ')
		if rule[0] == '"' {
			for end = 1; rule[end] != '"'; end++ {
				if rule[end] == '\\' {
					end++
				}
			}
			end++
		}
		words = append(words, rule[:end])
		rule = strings.TrimLeft(rule[end:], " ")
	}
	return words
}

// text makes a text by a rule.
func (c *chooser) text(rule string, depth int) string {
	c.out = nil
	c.rule(rule, depth)
	return strings.Join(c.out, "")
}

func (c *chooser) rule(name string, depth int) {
	c.oneOf(c.rules[name], depth-1)
}

// oneOf takes one of several parts; without depth, or if the text has become
// long, it is the first one.
func (c *chooser) oneOf(words []string, depth int) {
	if len(c.out) > 200 {
		depth = 0
	}
	var parts [][]string
	begin := 0
	for i := 0; i <= len(words); i++ {
		if i == len(words) || words[i] == "|" {
			parts = append(parts, words[begin:i])
			begin = i + 1
		} else {
			i = behind(words, i) - 1
		}
	}
	part := parts[0]
	if depth > 0 {
		part = parts[c.Intn(len(parts))]
	}
	c.all(part, depth)
}

// behind returns the index behind a word, or behind the bracket that it opens.
func behind(words []string, i int) int {
	open := 0
	for ; ; i++ {
		switch words[i] {
		case "(", "[", "{":
			open++
		case ")", "]", "}":
			open--
		}
		if open == 0 {
			return i + 1
		}
	}
}

func (c *chooser) all(words []string, depth int) {
	for i := 0; i < len(words); {
		end := behind(words, i)
		item := words[i:end]
		c.item(item, depth)
		if end+1 < len(words) && words[end] == "%" {
			if depth > 0 && c.Intn(3) == 0 {
				c.item(words[end+1:end+2], depth)
				c.item(item, depth)
			}
			end += 2
		}
		i = end
	}
}

func (c *chooser) item(words []string, depth int) {
	first, inside := words[0], words[1:max(1, len(words)-1)]
	switch {
	case first == "(":
		c.oneOf(inside, depth)
	case first == "[":
		if depth > 0 && c.Intn(2) == 0 {
			c.oneOf(inside, depth)
		}
	case first == "{":
		for range c.Intn(4) * min(1, max(0, depth)) {
			c.oneOf(inside, depth)
		}
	case first[0] == '"':
		c.put(strings.NewReplacer(`\"`, `"`, `\\`, `\`).Replace(first[1 : len(first)-1]))
	case c.rules[first] != nil:
		c.rule(first, depth)
	default:
		c.put(samples[first][c.Intn(len(samples[first]))])
	}
}

// put adds a word, with a blank in front where none is in an interpolated
// string.
func (c *chooser) put(word string) {
	glued := word == "" || len(c.out) > 0 && (strings.HasSuffix(c.out[len(c.out)-1], "'") || strings.HasSuffix(c.out[len(c.out)-1], "$"))
	if !glued && !slices.Contains([]string{"$b ", "\"", "}b$", "$this", "c\""}, word) {
		c.out = append(c.out, " ")
	}
	c.out = append(c.out, word)
}

// P5.4 at the trees of random texts.
func TestRandomTexts(t *testing.T) {
	c := newChooser(1)
	right := 0
	for i := range 4000 {
		kind := []string{"unit", "expr", "expr"}[i%3]
		text := c.text(kind, 3+c.Intn(12))
		read := parser.Expr
		if kind == "unit" {
			read = parser.Parse
		}
		n, f := read(text)
		if len(text) > 1500 || f.Code != api.OK {
			continue
		}
		if _, f := checkCore(t, n); f.Code == api.OK {
			right++
		}
	}
	if right < 1500 {
		t.Errorf("only %d texts", right)
	}
}

// FuzzUnit checks the core trees of any texts and text forms.
func FuzzUnit(f *testing.F) {
	c, m := newChooser(2), newMaker(5)
	for i := range 200 {
		f.Add(c.text([]string{"unit", "expr"}[i%2], 4+i%8))
		f.Add(form(randomTree(m, i)))
	}
	f.Fuzz(func(t *testing.T, text string) {
		for _, read := range []func(string) (syntax.Node, api.Fault){parser.Parse, parser.Expr, syntax.Read} {
			if n, fault := read(text); fault.Code == api.OK && len(text) <= 3000 {
				checkAny(t, n)
			}
		}
	})
}
