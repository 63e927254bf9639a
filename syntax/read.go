package syntax

import (
	"strconv"
	"strings"

	"newel/api"
)

// reader reads a text form. At a fault it panics with an api.Fault.
type reader struct {
	text string
	at   int       // the offset of the next byte
	deep api.Fault // the first node that is nested too deeply
}

func fail(at int, code api.Errno) {
	panic(api.Fault{At: at, Code: code})
}

// all reads the whole text. A fault of the nesting comes behind all faults of
// the syntax.
func (r *reader) all() Node {
	n := r.node(1)
	if r.at < len(r.text) {
		fail(r.at, api.ErrSyntax)
	}
	if r.deep.Code != api.OK {
		fail(r.deep.At, r.deep.Code)
	}
	return n
}

// peek returns the next byte, which must not be missing.
func (r *reader) peek() byte {
	if r.at >= len(r.text) {
		fail(len(r.text), api.ErrSyntax)
	}
	return r.text[r.at]
}

func (r *reader) expect(b byte) {
	if r.peek() != b {
		fail(r.at, api.ErrSyntax)
	}
	r.at++
}

// node reads a node that is nested as deep as level says.
func (r *reader) node(level int) Node {
	n := Node{At: r.at}
	r.expect('(')
	if level > api.MaxNest && r.deep.Code == api.OK {
		r.deep = api.Fault{At: n.At, Code: api.ErrDepth}
	}
	n.Kind = r.kind()
	if r.blankAnd("\"") {
		r.at++
		n.Text = r.quoted()
	}
	if r.blankAnd("-0123456789") {
		r.at++
		n.Num = r.number()
	}
	for r.peek() != ')' {
		r.expect(' ')
		kid := r.node(level + 1)
		n.Kids = append(n.Kids, kid)
	}
	r.at++
	return n
}

// blankAnd reports whether a blank and one of some bytes come next.
func (r *reader) blankAnd(bytes string) bool {
	next := r.at + 1
	return r.peek() == ' ' && next < len(r.text) && strings.IndexByte(bytes, r.text[next]) >= 0
}

// kind reads the name of a kind.
func (r *reader) kind() int {
	start := r.at
	for r.at < len(r.text) && isLetter(r.text[r.at]) {
		r.at++
	}
	word, begun := r.text[start:r.at], false
	for kind := range Kinds {
		if kindNames[kind] == word {
			return kind
		}
		begun = begun || strings.HasPrefix(kindNames[kind], word)
	}
	if begun && r.at == len(r.text) {
		fail(r.at, api.ErrSyntax)
	}
	fail(start, api.ErrSyntax)
	return 0
}

// quoted reads a Text with its double quotes.
func (r *reader) quoted() string {
	quote := r.at
	var out []byte
	for r.at++; r.peek() != '"'; {
		b := r.character(quote)
		out = append(out, b)
	}
	if len(out) == 0 {
		fail(quote, api.ErrSyntax)
	}
	r.at++
	return string(out)
}

// character reads a byte or an escape of the Text that begins at quote.
func (r *reader) character(quote int) byte {
	b := r.peek()
	r.at++
	if !printable(b) {
		fail(quote, api.ErrSyntax)
	}
	if b != '\\' {
		return b
	}
	b = r.peek()
	r.at++
	switch b {
	case '\\', '"':
		return b
	case 'n':
		return '\n'
	case 't':
		return '\t'
	case 'x':
		return r.hexByte(quote)
	}
	fail(quote, api.ErrSyntax)
	return 0
}

// hexByte reads the digits of an escape, which must stand for a byte that has
// no other form.
func (r *reader) hexByte(quote int) byte {
	high := r.hexDigit(quote)
	if high >= 2 && high <= 6 { // all these bytes are printable
		fail(quote, api.ErrSyntax)
	}
	low := r.hexDigit(quote)
	b := high<<4 | low
	if printable(b) || b == '\n' || b == '\t' {
		fail(quote, api.ErrSyntax)
	}
	return b
}

func (r *reader) hexDigit(quote int) byte {
	value := strings.IndexByte(hexDigits, r.peek())
	if value < 0 {
		fail(quote, api.ErrSyntax)
	}
	r.at++
	return byte(value)
}

// number reads a Num in its shortest form.
func (r *reader) number() int64 {
	start := r.at
	if r.peek() == '-' {
		r.at++
		r.peek()
	}
	for r.at < len(r.text) && isDigit(r.text[r.at]) {
		r.at++
	}
	word := r.text[start:r.at]
	num, err := strconv.ParseInt(word, 10, 64)
	if err != nil || num == 0 || strconv.FormatInt(num, 10) != word {
		fail(start, api.ErrSyntax)
	}
	return num
}

// offset returns the At of a node by its index in preorder.
func offset(n *Node, index int) int {
	for m := range preorder(n) {
		if index == 0 {
			return m.At
		}
		index--
	}
	return 0
}
