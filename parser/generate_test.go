package parser_test

import (
	"math/rand"
	"slices"

	"newel/tokens"
)

const tall = 1000 // more than the height of any rule

// generator makes lists of tokens by the rules of a grammar.
type generator struct {
	g      grammar
	r      *rand.Rand
	height map[string]int // the least nesting of rules that a rule needs
	out    []tokens.Token
}

func newGenerator(g grammar, seed int64) *generator {
	x := &generator{g: g, r: rand.New(rand.NewSource(seed)), height: map[string]int{}}
	for name := range g {
		x.height[name] = tall
	}
	for changed := true; changed; {
		changed = false
		for name := range g {
			least := tall
			for _, words := range g[name] {
				least = min(least, x.needs(words))
			}
			if least < x.height[name] {
				x.height[name] = least
				changed = true
			}
		}
	}
	return x
}

// needs returns the nesting that an alternative needs; blocks that are written
// by indentation are not made.
func (x *generator) needs(words []string) int {
	need := 0
	for _, w := range words {
		if w == "INDENT" || w == "OUTDENT" {
			return tall
		}
		if x.g[w] != nil {
			need = max(need, x.height[w])
		}
	}
	return need + 1
}

// text returns a list of tokens, without layout.
func (x *generator) list(start string, depth int) []tokens.Token {
	x.out = nil
	x.rule(start, depth)
	return slices.Clone(x.out)
}

func (x *generator) rule(name string, depth int) {
	var fits [][]string
	least := tall
	for _, words := range x.g[name] {
		least = min(least, x.needs(words))
	}
	for _, words := range x.g[name] {
		if need := x.needs(words); need <= max(depth, least) {
			fits = append(fits, words)
		}
	}
	for _, w := range fits[x.r.Intn(len(fits))] {
		if x.g[w] != nil {
			x.rule(w, depth-1)
		} else if w[0] != '&' && w != "STOP" {
			x.out = append(x.out, x.token(w))
		}
	}
}

func (x *generator) token(word string) tokens.Token {
	one := func(kind int, texts ...string) tokens.Token {
		return tokens.Token{Kind: kind, Text: texts[x.r.Intn(len(texts))]}
	}
	switch word {
	case "NAME":
		return one(tokens.Name, "a", "b", "x", "A", "B", "_c")
	case "OP":
		return one(tokens.Op, "+", "-", "::", "==", "|", "+=")
	case "INFIX":
		return one(tokens.Op, "+", "-", "*", "::", "==", "|", "&&")
	case "ASSIGN":
		return one(tokens.Op, "+=", "*=")
	case "PREFIX":
		return one(tokens.Op, "-", "!", "~", "+")
	case "INT":
		return one(tokens.Int, "0", "1", "2147483647")
	case "LONG":
		return one(tokens.Long, "0", "9223372036854775807")
	case "CHAR":
		return one(tokens.Char, "c", "\n", "\xff")
	case "STRING":
		return one(tokens.String, "", "s", "{\x00")
	case "START":
		return one(tokens.Start, "s", "f")
	case "PART":
		return one(tokens.Part, "", " p ", "q")
	case "END":
		return one(tokens.End, "")
	case "LINE":
		return one(tokens.Mark, ";")
	case "MOD":
		return one(tokens.Key, "abstract", "final", "sealed", "private", "override", "volatile", "inline")
	}
	text := word[1 : len(word)-1]
	for _, kind := range []int{tokens.Key, tokens.Mark, tokens.Op} {
		if matches(tokens.Token{Kind: kind, Text: text}, word) && kind == kindOf(text) {
			return tokens.Token{Kind: kind, Text: text}
		}
	}
	panic(word)
}

// kindOf returns the kind of a token that is no name.
func kindOf(text string) int {
	l, _ := tokens.Raw(text)
	switch {
	case tokens.Keyword(text):
		return tokens.Key
	case len(l) == 1:
		return l[0].Kind
	}
	return tokens.Mark
}
