package tokens

import "newel/api"

const maxList = 20000 // tokens of a list that gets layout

// region is a part of a list: a bracket, or an indentation (its closer is 0).
type region struct {
	closer byte
	width  int // of an indentation; of a bracket, the Col of the first token of its line
	index  int // of the bracket
}

// layouter puts layout into a list. At a fault it panics with an api.Fault.
type layouter struct {
	in, out []Token
	regions []region
	margin  int // the Col of the first token of the line at hand
}

// badList returns the fault of a list that gets no layout.
func badList(l []Token) api.Fault {
	for i, t := range l {
		if t.Kind < Name || t.Kind > End {
			return api.Fault{At: i, Code: api.ErrKind}
		}
		if i > 0 && !inOrder(l[i-1], t) {
			return api.Fault{At: i, Code: api.ErrOrder}
		}
	}
	if len(l) > maxList {
		return api.Fault{At: 0, Code: api.ErrLimit}
	}
	return api.Fault{}
}

// inOrder reports whether a token may stand behind another one.
func inOrder(u, t Token) bool {
	if t.Line < u.Line || t.At < u.At || t.Line == u.Line && t.Col < u.Col {
		return false
	}
	return u.Kind == Part || t.At > u.At && (t.Line > u.Line || t.Col > u.Col)
}

// all puts layout into the whole list.
func (y *layouter) all() {
	for i, t := range y.in {
		if i == 0 {
			y.margin = t.Col
			y.regions = append(y.regions, region{width: t.Col})
		} else if t.Line > y.in[i-1].Line {
			y.margin = t.Col
			y.lineEnd(i)
		}
		y.openBracket(i)
		y.closeBracket(i)
		y.out = append(y.out, t)
	}
	y.end()
}

func (y *layouter) top() region {
	return y.regions[len(y.regions)-1]
}

func (y *layouter) push(i int, r region) {
	if len(y.regions) >= api.MaxNest {
		fail(i, api.ErrDepth)
	}
	y.regions = append(y.regions, r)
}

func (y *layouter) pop() {
	y.regions = y.regions[:len(y.regions)-1]
}

// put adds a token of layout in front of the token t.
func (y *layouter) put(kind int, t Token) {
	y.out = append(y.out, Token{Kind: kind, At: t.At, Line: t.Line, Col: t.Col})
}

// lineEnd puts what stands in front of the token i, the first one of a line.
func (y *layouter) lineEnd(i int) {
	if c := y.top().closer; c == ')' || c == ']' {
		return
	}
	t, u := y.in[i], y.in[i-1]
	if opener(u) && t.Col > y.top().width {
		y.put(Indent, t)
		y.push(i, region{width: t.Col})
	} else {
		y.outdents(t)
	}
	if !y.continuation(i) && !unfinished(u) {
		y.put(Newline, t)
	}
}

// outdents closes the indentations that are deeper than the token t, which
// must stand where the last one of them began, or an outer one goes on.
func (y *layouter) outdents(t Token) {
	put := false
	for len(y.regions) > 1 && y.top().closer == 0 && t.Col < y.top().width {
		y.put(Outdent, t)
		y.pop()
		put = true
	}
	if y.top().closer != 0 {
		return
	}
	if t.Col < y.top().width || put && t.Col > y.top().width {
		fail(t.At, api.ErrOrder)
	}
}

func (y *layouter) openBracket(i int) {
	t := y.in[i]
	if t.Kind != Mark {
		return
	}
	if c := closer(t.Text); c != 0 {
		y.push(i, region{closer: c, width: y.margin, index: i})
	}
}

// closeBracket ends the innermost bracket, and the indentations inside of it.
func (y *layouter) closeBracket(i int) {
	t := y.in[i]
	if t.Kind != Mark || t.Text != ")" && t.Text != "]" && t.Text != "}" {
		return
	}
	for len(y.regions) > 1 && y.top().closer == 0 {
		y.put(Outdent, t)
		y.pop()
	}
	if y.top().closer != t.Text[0] {
		fail(i, api.ErrSyntax)
	}
	y.pop()
}

// end closes the indentations that are open, and adds the last token.
func (y *layouter) end() {
	for i := len(y.regions) - 1; i > 0; i-- {
		if y.regions[i].closer != 0 {
			fail(y.regions[i].index, api.ErrSyntax)
		}
	}
	var stop Token
	if n := len(y.in); n > 0 {
		stop = Token{At: y.in[n-1].At + 1, Line: y.in[n-1].Line + 1}
	}
	for len(y.regions) > 1 {
		y.put(Outdent, stop)
		y.pop()
	}
	y.put(Stop, stop)
}

// opener reports whether a block may begin behind a token.
func opener(u Token) bool {
	switch u.Kind {
	case Mark:
		switch u.Text {
		case ":", "=", "=>", "<-":
			return true
		}
	case Key:
		switch u.Text {
		case "then", "else", "do", "match", "try", "catch", "finally", "yield", "return", "throw":
			return true
		}
	}
	return false
}

// unfinished reports whether a statement cannot end with a token.
func unfinished(u Token) bool {
	switch u.Kind {
	case Op:
		return true
	case Mark:
		switch u.Text {
		case "(", "[", "{", "'{", "${", ",", ".", ";", "=", "=>", "<-", ":", "<:", ">:":
			return true
		}
	case Key:
		switch u.Text {
		case "false", "null", "return", "super", "this", "true":
			return false
		}
		return true
	}
	return false
}

// continuation reports whether no statement begins with the token i.
func (y *layouter) continuation(i int) bool {
	t := y.in[i]
	switch t.Kind {
	case Op:
		// Unsigned, as the difference of two offsets may be no int.
		return i+1 == len(y.in) || uint(y.in[i+1].At)-uint(t.At) > uint(len(t.Text))
	case Mark:
		switch t.Text {
		case ")", "]", "}", ",", ".", "=", "=>", "<-", ":", "<:", ">:", ";":
			return true
		}
	case Key:
		switch t.Text {
		case "catch", "do", "else", "extends", "finally", "match", "then", "with", "yield":
			return true
		}
	}
	return false
}
