package parser_test

import (
	"slices"
	"strconv"
	"strings"

	"newel/tokens"
)

// rules is the grammar of the chapter: "x" is a Key, Mark or Op, a word of
// capitals a token of a class, "x % y" one or more x with y between, and &x a
// condition on the token that comes next.
//
// Each rule with an x' has a second form, for what stands at the end of a
// guard, where an => may follow: in this form x' is the second form of x, in
// the first one it is x. x! is the second form everywhere.
const rules = `
unit = [ nl ] [ definition % nl ] [ nl ] STOP
oneexpr = [ nl ] expr [ nl ] STOP
onetype = [ nl ] type [ nl ] STOP
onlypattern = [ nl ] pattern [ nl ] STOP
nl = LINE { LINE }
open = "{" | INDENT
close = "}" | OUTDENT
import = "import" NAME { "." NAME } [ "." "*" ]
mods = { &fresh MOD }
definition = import | mods class | mods def' | mods val' | mods typedef' | mods given' | extension'
class = [ "case" ] "class" NAME tparams lists parents [ body ] | "trait" NAME tparams lists parents [ body ] | [ "case" ] "object" NAME parents [ body ] | "enum" NAME tparams lists parents enumbody
body = "{" [ nl ] [ statement % nl ] [ nl ] "}" | ":" INDENT [ nl ] [ statement % nl ] [ nl ] OUTDENT
enumbody = "{" [ nl ] [ enumstatement % nl ] [ nl ] "}" | ":" INDENT [ nl ] [ enumstatement % nl ] [ nl ] OUTDENT
enumstatement = statement | "case" NAME tparams lists parents | "case" NAME % ","
parents = [ "extends" parent % parentsep ]
parentsep = "with" | ","
parent = simpletype [ "(" [ expr % "," ] ")" ]
def = "def" id tparams lists [ ":" type' ] [ "=" expr' ]
id = NAME | OP
val = [ "lazy" ] "val" NAME [ ":" type' ] [ "=" expr' ] | "var" NAME [ ":" type' ] [ "=" expr' ]
typedef = "type" NAME tparams [ ">:" type' ] [ "<:" type' ] | "type" NAME tparams "=" type'
given = "given" &namedgiven NAME tparams lists ":" type "=" expr' | "given" &baregiven type "=" expr'
extension = "extension" tparams "(" param ")" ( extdef' | "{" [ nl ] extdef % nl [ nl ] "}" | ":" INDENT [ nl ] extdef % nl [ nl ] OUTDENT )
extdef = mods def'
tparams = [ "[" tparam % "," "]" ]
tparam = [ "+" | "-" ] NAME [ "[" "_" % "," "]" ] [ ">:" type ] [ "<:" type ]
lists = { "(" [ "using" ] [ param % "," ] ")" }
param = mods [ "val" | "var" ] NAME ":" ( "=>" type | type [ "*" ] ) [ "=" expr ]
type = "[" tparam % "," "]" "=>>" type | &arrow "(" [ type % "," ] ")" "=>" type | &noarrow ortype [ "=>" type ] | &noarrow ortype "match" open [ nl ] tcase % nl [ nl ] close
type' = "[" tparam % "," "]" "=>>" type' | &arrow "(" [ type % "," ] ")" "=>" type' | ortype [ "=>" type' ] | ortype "match" open [ nl ] tcase % nl [ nl ] close
tcase = "case" ortype "=>" type
ortype = andtype % "|"
andtype = simpletype % "&"
simpletype = ( "(" type ")" | [ "this" "." ] NAME { "." NAME } [ "." "type" ] | "this" "." "type" ) { "[" typearg % "," "]" }
typearg = "_" [ ">:" type ] [ "<:" type ] | type
statement = definition' | expr'
block = open [ nl ] [ statement % nl ] [ nl ] close
expr = &lambda lambda | &nolambda otherexpr
expr' = &lambda lambda' | otherexpr'
otherexpr = ifexpr' | "while" whilepart' | for' | "try" expr' [ [ nl ] "catch" cases' ] [ [ nl ] "finally" expr' ] | "throw" expr' | "return" &noexpr | "return" expr' | operation [ "=" expr' | ASSIGN expr' ]
ifexpr = "if" ifpart' [ [ nl ] "else" expr' ]
ifpart = "(" expr ")" [ "then" ] expr' | &noparen expr "then" expr'
whilepart = "(" expr ")" [ "do" ] expr' | &noparen expr "do" expr'
lambda = NAME "=>" expr' | "_" "=>" expr' | "(" [ lparam % "," ] ")" "=>" expr'
lparam = ( NAME | "_" ) [ ":" ortype ]
for = "for" ( "{" enums "}" | "(" enums ")" | enums ) ( "yield" expr' | "do" expr' ) | "for" ( "{" enums "}" | "(" enums ")" ) expr'
enums = [ nl ] generator { nl enum | "if" expr } [ nl ]
generator = pattern "<-" expr
enum = generator | pattern "=" expr | "if" expr
cases = caselist | case'
caselist = open [ nl ] case { [ nl ] case } [ nl ] close
case = "case" pattern [ "if" expr! ] "=>" casebody'
casebody = &wholeblock block | &nowholeblock casestatement' % nl &bodyend | &nowholeblock &nostatement
casestatement = &nocase statement'
operation = infix { "match" caselist }
infix = prefix { INFIX prefix }
prefix = PREFIX prefix | simple
simple = atom { "." id | "[" type % "," "]" | "(" args ")" | &brace block }
args = [ "using" ] [ arg % "," ]
arg = NAME "=" expr | expr
atom = INT | LONG | CHAR | STRING | "true" | "false" | "null" | "(" ")" | NAME | "this" | "super" [ "[" NAME "]" ] "." id | "new" parent % "with" [ body ] | "(" expr [ ":" type ] ")" | block | "'{" [ nl ] [ statement % nl ] [ nl ] "}" | "${" [ nl ] [ statement % nl ] [ nl ] "}" | START PART { interpolation PART } END
interpolation = NAME | "this" | "${" expr "}"
pattern = onepattern % "|"
onepattern = "_" [ ":" ortype ] | INT | LONG | CHAR | STRING | "true" | "false" | "null" | "-" ( INT | LONG ) | "(" ")" | "(" pattern ")" | NAME "@" onepattern | NAME ":" ortype | NAME { "." NAME } [ "(" [ pattern % "," ] ")" ]
`

// grammar has the alternatives of each rule, lists of words.
type grammar map[string][][]string

// readGrammar makes plain alternatives of rules: brackets become rules of
// their own. A second form may stand in a line of its own.
func readGrammar(text string) grammar {
	g := grammar{}
	for _, line := range strings.Split(strings.TrimSpace(text), "\n") {
		words := strings.Fields(line)
		name := words[0]
		first, second := forms(words[2:])
		if strings.HasSuffix(name, "'") {
			g.alternatives(name, second)
			continue
		}
		g.alternatives(name, first)
		if !slices.Equal(first, second) {
			g.alternatives(name+"'", second)
		}
	}
	return g
}

// forms returns the words of both forms of a rule.
func forms(words []string) (first, second []string) {
	for _, w := range words {
		a, b := w, w
		if w[0] != '"' {
			if inGuard, ok := strings.CutSuffix(w, "!"); ok {
				a, b = inGuard+"'", inGuard+"'"
			}
			if plain, ok := strings.CutSuffix(w, "'"); ok {
				a = plain
			}
		}
		first = append(first, a)
		second = append(second, b)
	}
	return first, second
}

// alternatives reads words up to the end of a bracket.
func (g grammar) alternatives(name string, words []string) []string {
	var now []string
	for len(words) > 0 && words[0] != ")" && words[0] != "]" && words[0] != "}" {
		word := words[0]
		words = words[1:]
		switch word {
		case "|":
			g[name] = append(g[name], now)
			now = nil
			continue
		case "(", "[", "{":
			inner := name + "." + strconv.Itoa(len(words))
			words = g.alternatives(inner, words)[1:]
			switch word {
			case "[":
				g[inner] = append(g[inner], nil)
			case "{":
				g[inner+"*"] = [][]string{nil, {inner, inner + "*"}}
				inner += "*"
			}
			word = inner
		case "%":
			item := now[len(now)-1]
			now = now[:len(now)-1]
			word = name + "%" + strconv.Itoa(len(words))
			g[word] = [][]string{{item}, {item, words[0], word}}
			words = words[1:]
		}
		now = append(now, word)
	}
	g[name] = append(g[name], now)
	return words
}

// place is a place in a rule: an alternative, the number of its words that
// have been read, and the index of the token where it began.
type place struct {
	name              string
	alternative, word int
	from              int
}

// recognizer finds out how far a list of tokens can be read by any rules.
type recognizer struct {
	g    grammar
	list []tokens.Token
	sets [][]place
	seen map[place]bool
}

// fault returns the index of the token at which no rule goes on, or -1.
func (g grammar) fault(start string, list []tokens.Token) int {
	r := recognizer{g: g, list: list}
	r.open()
	r.start(start)
	for i := range list {
		r.close(i)
		r.open()
		for _, p := range r.sets[i] {
			words := g[p.name][p.alternative]
			if p.word < len(words) && g[words[p.word]] == nil && words[p.word][0] != '&' && matches(list[i], words[p.word]) {
				p.word++
				r.add(p)
			}
		}
		if len(r.sets[i+1]) == 0 {
			return i
		}
	}
	return -1
}

func (r *recognizer) open() {
	r.sets = append(r.sets, nil)
	r.seen = map[place]bool{}
}

func (r *recognizer) add(p place) {
	if !r.seen[p] {
		r.seen[p] = true
		last := len(r.sets) - 1
		r.sets[last] = append(r.sets[last], p)
	}
}

// start adds the alternatives of a rule that begins here.
func (r *recognizer) start(name string) {
	for i := range r.g[name] {
		r.add(place{name, i, 0, len(r.sets) - 1})
	}
}

// close adds what follows from what is in the last set.
func (r *recognizer) close(index int) {
	for changed := true; changed; {
		before := len(r.sets[index])
		for i := 0; i < len(r.sets[index]); i++ {
			p := r.sets[index][i]
			words := r.g[p.name][p.alternative]
			switch {
			case p.word == len(words):
				r.finish(p)
			case r.g[words[p.word]] != nil:
				r.start(words[p.word])
			case words[p.word][0] == '&' && r.holds(index, words[p.word]):
				p.word++
				r.add(p)
			}
		}
		changed = len(r.sets[index]) > before
	}
}

// finish goes on with what has waited for a rule that is complete.
func (r *recognizer) finish(done place) {
	for i := 0; i < len(r.sets[done.from]); i++ {
		p := r.sets[done.from][i]
		words := r.g[p.name][p.alternative]
		if p.word < len(words) && words[p.word] == done.name {
			p.word++
			r.add(p)
		}
	}
}

// matches reports whether a token is what a word stands for.
func matches(t tokens.Token, word string) bool {
	isText := t.Kind == tokens.Key || t.Kind == tokens.Mark || t.Kind == tokens.Op
	switch word {
	case "NAME":
		return t.Kind == tokens.Name
	case "OP":
		return t.Kind == tokens.Op
	case "INFIX":
		return t.Kind == tokens.Op && !tokens.Assigns(t.Text)
	case "ASSIGN":
		return t.Kind == tokens.Op && tokens.Assigns(t.Text)
	case "PREFIX":
		return t.Kind == tokens.Op && strings.Contains(" - ! ~ + ", " "+t.Text+" ")
	case "LINE":
		return t.Kind == tokens.Newline || t.Kind == tokens.Mark && t.Text == ";"
	case "MOD":
		return isMod(t)
	}
	if strings.HasPrefix(word, "\"") {
		return isText && word == "\""+t.Text+"\""
	}
	return word == kindNames[t.Kind]
}

const definitions = " import extension class trait object enum def lazy val var type given "

var kindNames = [tokens.Kinds]string{"NAME", "KEY", "OP", "MARK", "INT", "LONG", "CHAR", "STRING", "START", "PART", "END", "NEWLINE", "INDENT", "OUTDENT", "STOP"}

func isMod(t tokens.Token) bool {
	return t.Kind == tokens.Key && strings.Contains(" abstract final sealed private override volatile inline ", " "+t.Text+" ")
}

// holds reports whether a condition holds for the token with an index.
func (r *recognizer) holds(index int, condition string) bool {
	t := r.list[index]
	is := func(i int, words ...string) bool {
		for _, w := range words {
			if matches(r.list[min(i, len(r.list)-1)], w) {
				return true
			}
		}
		return false
	}
	switch condition {
	case "&fresh":
		for i := index - 1; i >= 0 && isMod(r.list[i]); i-- {
			if r.list[i].Text == t.Text {
				return false
			}
		}
		return true
	case "&arrow":
		return is(index, `"("`) && is(r.behind(index), `"=>"`)
	case "&noarrow":
		return !r.holds(index, "&arrow")
	case "&lambda":
		i := index + 1
		if is(index, `"("`) {
			i = r.behind(index)
		}
		return is(index, "NAME", `"_"`, `"("`) && (is(i, `"=>"`) || is(index, `"_"`))
	case "&nolambda":
		return !r.holds(index, "&lambda")
	case "&noexpr":
		return !begins(t)
	case "&nostatement":
		return !r.holds(index, "&statement")
	case "&statement":
		return !is(index, `"case"`) && (begins(t) || isMod(t) || t.Kind == tokens.Key && strings.Contains(definitions, " "+t.Text+" "))
	case "&bodyend":
		i := index
		for is(i, "LINE") {
			i++
		}
		return i == index || !r.holds(i, "&statement")
	case "&namedgiven":
		i := index + 1
		if is(i, `"["`) {
			i = r.behind(i)
		}
		return t.Kind == tokens.Name && is(i, `":"`, `"("`)
	case "&baregiven":
		return !r.holds(index, "&namedgiven")
	case "&noparen":
		return !is(index, `"("`)
	case "&brace":
		return is(index, `"{"`)
	case "&nocase":
		return !is(index, `"case"`)
	case "&wholeblock":
		return is(index, `"{"`, "INDENT") && is(r.behind(index), `"case"`, "LINE", `"}"`, "OUTDENT")
	case "&nowholeblock":
		return !r.holds(index, "&wholeblock")
	}
	panic(condition)
}

// begins reports whether an expression can begin with a token.
func begins(t tokens.Token) bool {
	switch t.Kind {
	case tokens.Key, tokens.Mark, tokens.Op:
		return strings.Contains(" if while for try throw return true false null this super new ( { '{ ${ _ - ! ~ + ", " "+t.Text+" ")
	}
	return t.Kind <= tokens.Start || t.Kind == tokens.Indent
}

// behind returns the index of the token behind the end of a bracket or
// indentation.
func (r *recognizer) behind(index int) int {
	depth := 0
	for i := index; i < len(r.list); i++ {
		switch t := r.list[i]; {
		case t.Kind == tokens.Indent || t.Kind == tokens.Mark && strings.Contains("( [ { '{ ${", t.Text):
			depth++
		case t.Kind == tokens.Outdent || t.Kind == tokens.Mark && strings.Contains(") ] }", t.Text):
			depth--
			if depth == 0 {
				return i + 1
			}
		}
	}
	panic("open")
}
