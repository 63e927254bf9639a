package printer

import (
	"newel/api"
	"newel/syntax"
	"newel/tokens"
)

func (w *writer) char(n *syntax.Node) {
	w.put(w.shown(tokens.Token{Kind: tokens.Char, Text: string([]byte{byte(n.Num)})}))
}

func (w *writer) str(n *syntax.Node) {
	w.put(w.shown(tokens.Token{Kind: tokens.String, Text: n.Text}))
}

// shown returns the text of tokens. They are literals, which have none only if
// it is too long.
func (w *writer) shown(list ...tokens.Token) string {
	text, code := tokens.Show(list)
	w.full = w.full || code != api.OK
	return text
}

// interpolated writes an interpolated string, which stands in one line.
func (w *writer) interpolated(n *syntax.Node) {
	flat := w.flat
	w.flat = true
	w.put(n.Text, "\"")
	w.part(n.Kids[0].Text)
	for i := 1; i < len(n.Kids); i += 2 {
		next := n.Kids[i+1].Text
		w.interpolation(&n.Kids[i], next)
		w.part(next)
	}
	w.put("\"")
	w.flat = flat
}

// part writes the characters between two expressions.
func (w *writer) part(text string) {
	shown := w.shown(tokens.Token{Kind: tokens.Start, Text: "s"}, tokens.Token{Kind: tokens.Part, Text: text}, tokens.Token{Kind: tokens.End})
	if shown != "" {
		w.add(shown[len(`s"`) : len(shown)-len(`"`)])
	}
}

// interpolation writes an expression, without braces if it is a name that ends
// in front of the next part.
func (w *writer) interpolation(n *syntax.Node, next string) {
	isName := n.Kind == syntax.XName || n.Kind == syntax.XThis
	if isName && (next == "" || !isToken("a"+next[:1], tokens.Name)) {
		w.add("$")
		w.node(n)
		return
	}
	w.add("$")
	w.enclosed("{", func() { w.node(n) }, "}")
}
