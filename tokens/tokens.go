// Package tokens is the lexer: it divides a text into tokens, and finds out,
// from line ends and indentation, where statements end and blocks begin and
// end. See shared/doc/01-tokens.md.
package tokens

import "newel/api"

// Kinds of tokens.
const (
	Name    = iota
	Key     // a keyword
	Op      // a run of operator bytes that is no mark
	Mark    // a bracket, a separator or one of a few runs of operator bytes
	Int     // the Text is the digits
	Long    // the Text is the digits, without the L
	Char    // the Text is the byte that it stands for
	String  // the Text is the bytes that it stands for
	Start   // the name with which an interpolated string begins
	Part    // bytes of an interpolated string
	End     // the double quote at the end of an interpolated string
	Newline // put by Layout: a statement ends
	Indent  // put by Layout: a block begins
	Outdent // put by Layout: a block ends
	Stop    // put by Layout: the end of the list
	Kinds   // the number of kinds
)

// Token is a token: the byte offset At, the line (from 0), and the number of
// bytes in front of it in that line.
type Token struct {
	Kind          int
	Text          string
	At, Line, Col int
}

// Raw returns the tokens of a text, without layout, or the first fault.
func Raw(text string) (list []Token, fault api.Fault) {
	if f := badText(text); f.Code != api.OK {
		return nil, f
	}
	defer func() {
		if f, ok := recover().(api.Fault); ok {
			list, fault = nil, f
		}
	}()
	r := reader{text: text}
	r.all()
	return r.out, api.Fault{}
}

// Layout puts line ends and indentation into a list of tokens without layout.
func Layout(l []Token) (list []Token, fault api.Fault) {
	if f := badList(l); f.Code != api.OK {
		return nil, f
	}
	defer func() {
		if f, ok := recover().(api.Fault); ok {
			list, fault = nil, f
		}
	}()
	y := layouter{in: l}
	y.all()
	return y.out, api.Fault{}
}

// Scan returns the tokens of a text, with layout.
func Scan(text string) ([]Token, api.Fault) {
	l, f := Raw(text)
	if f.Code != api.OK {
		return nil, f
	}
	return Layout(l)
}

// Show returns a text of tokens without layout, in their canonical forms.
func Show(l []Token) (string, api.Errno) {
	text, ok := canonical(l)
	if !ok {
		return "", api.ErrForm
	}
	again, f := Raw(text)
	if f.Code != api.OK || !sameTokens(l, again) {
		return "", api.ErrForm
	}
	return text, api.OK
}
