package parser_test

import (
	"math/rand"
	"strings"

	"newel/tokens"
)

// region is a bracket, or a block that is written by indentation.
type region struct {
	closer string // of a bracket
	width  int    // of an indentation; of a bracket, the indentation of its line
	end    int    // the index of the token that closes it
}

// indenter writes a list of tokens as a text in which blocks are written by
// indentation and statements in lines of their own, where that is possible,
// with comments in between.
type indenter struct {
	list    []tokens.Token
	ends    map[int]int // of opening brackets
	r       *rand.Rand
	out     strings.Builder
	regions []region
	margin  int  // of the line at hand
	outdent bool // whether a block by indentation has ended just now
	last    tokens.Token
}

// continuing are the keywords in front of which no line ends.
const continuing = " catch do else extends finally match then with yield "

func indented(list []tokens.Token, r *rand.Rand) string {
	w := indenter{list: list, ends: map[int]int{}, r: r, regions: []region{{end: len(list)}}}
	var open []int
	for i, t := range list {
		switch {
		case isMark(t, "(", "[", "{", "'{", "${"):
			open = append(open, i)
		case isMark(t, ")", "]", "}"):
			w.ends[open[len(open)-1]] = i
			open = open[:len(open)-1]
		}
	}
	for i := 0; i < len(list); i++ {
		i = w.token(i)
	}
	return w.out.String()
}

func isMark(t tokens.Token, texts ...string) bool {
	for _, text := range texts {
		if t.Kind == tokens.Mark && t.Text == text {
			return true
		}
	}
	return false
}

func (w *indenter) top() region { return w.regions[len(w.regions)-1] }

// line begins a line with an indentation.
func (w *indenter) line(width int) {
	if w.r.Intn(4) == 0 {
		w.out.WriteString(" // c {")
	}
	w.out.WriteByte('\n')
	if w.r.Intn(8) == 0 {
		w.out.WriteString("      // c\n\n")
	}
	w.out.WriteString(strings.Repeat(" ", width))
	w.margin = width
}

// token writes a token, or an interpolated string, and returns the index of
// the last token written.
func (w *indenter) token(i int) int {
	t := w.list[i]
	for w.top().closer == "" && len(w.regions) > 1 && w.top().end == i {
		w.regions = w.regions[:len(w.regions)-1]
		w.outdent = true
		return i // a brace that is not written
	}
	isLine := isMark(t, ";") && w.top().closer != ")" && w.top().closer != "]"
	if w.outdent {
		w.line(w.top().width)
	}
	ended := w.outdent
	w.outdent = false
	switch {
	case isLine && ended && !w.needsSemicolon(i):
		return i
	case isLine:
		w.lineEnd(i)
		return i
	case isMark(t, "{") && w.indents(i):
		colon := i > 1 && w.list[i-1].Kind == tokens.Name
		if colon {
			w.out.WriteString(":")
		}
		w.regions = append(w.regions, region{width: w.top().width + 1 + w.r.Intn(3), end: w.ends[i]})
		w.line(w.top().width)
		return i
	case isMark(t, "(", "[", "{", "'{", "${"):
		closer := map[byte]string{'(': ")", '[': "]"}[t.Text[0]]
		if closer == "" {
			closer = "}"
		}
		w.regions = append(w.regions, region{closer: closer, width: w.margin})
	case isMark(t, ")", "]", "}"):
		w.regions = w.regions[:len(w.regions)-1]
	case t.Kind == tokens.Start:
		end := i
		for depth := 0; depth > 0 || end == i; end++ {
			switch w.list[end].Kind {
			case tokens.Start:
				depth++
			case tokens.End:
				depth--
			}
		}
		s, _ := tokens.Show(w.list[i:end])
		w.out.WriteString(s + " ")
		w.last = w.list[end-1]
		return end - 1
	}
	s, _ := tokens.Show([]tokens.Token{t})
	if s == "" {
		s = t.Text // brackets
	}
	w.out.WriteString(s + " ")
	w.last = t
	if w.r.Intn(16) == 0 {
		w.out.WriteString("/* c } */ ")
	}
	return i
}

// lineEnd writes a line end for a semicolon.
func (w *indenter) lineEnd(i int) {
	if w.needsSemicolon(i) {
		w.out.WriteString("; ")
		w.last = w.list[i]
	}
	if i+1 < len(w.list) && w.top().end != i+1 {
		w.line(w.top().width)
	}
}

// needsSemicolon reports whether a semicolon must be written, as a line end is
// none behind an operator or a keyword, or in front of a mark, an operator or
// some keywords.
func (w *indenter) needsSemicolon(i int) bool {
	if i == 0 || i+1 == len(w.list) || w.r.Intn(8) == 0 {
		return true
	}
	next := w.list[i+1]
	if next.Kind == tokens.Op || next.Kind == tokens.Mark || next.Kind == tokens.Key && strings.Contains(continuing, " "+next.Text+" ") {
		return true
	}
	return w.last.Kind == tokens.Op || w.last.Kind == tokens.Key || w.last.Kind == tokens.Mark && !isMark(w.last, ")", "]", "}")
}

// indents reports whether a block in braces can be written by indentation.
func (w *indenter) indents(i int) bool {
	if i == 0 || w.top().closer == ")" || w.top().closer == "]" || len(w.regions) > 20 {
		return false
	}
	if !w.opens(i) || w.r.Intn(8) == 0 {
		return false
	}
	end := w.ends[i]
	empty := true
	for _, t := range w.list[i+1 : end] {
		empty = empty && isMark(t, ";")
	}
	if empty {
		return false
	}
	if end+1 == len(w.list) {
		return true
	}
	behind := w.list[end+1]
	if isMark(behind, ";", "}", ".") {
		return true
	}
	// No line ends behind a keyword, as in the type a.type.
	if w.list[end-1].Kind != tokens.Name && behind.Text == "case" {
		return false
	}
	return behind.Kind == tokens.Key && strings.Contains(" case"+continuing, " "+behind.Text+" ")
}

// opens reports whether an indentation may begin where a token stands: behind
// some tokens, or where a class has its body.
func (w *indenter) opens(i int) bool {
	last := w.list[i-1]
	switch last.Kind {
	case tokens.Mark:
		return isMark(last, "=", "=>", "<-")
	case tokens.Key:
		return strings.Contains(" then else do match try catch finally yield return throw ", " "+last.Text+" ")
	case tokens.Name:
		return i > 1 && w.list[i-2].Kind == tokens.Key && strings.Contains(" class trait object enum ", " "+w.list[i-2].Text+" ")
	}
	return false
}
