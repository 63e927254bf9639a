package tokens

import (
	"strings"

	"newel/api"
)

const (
	maxInt  = "2147483647"
	maxLong = "9223372036854775807"
)

// bracket is a bracket that is open: the byte that closes it, its offset, and
// whether it is a ${ of an interpolated string, which goes on behind it.
type bracket struct {
	closer byte
	at     int
	inside bool
}

// reader divides a text into tokens. At a fault it panics with an api.Fault.
type reader struct {
	text  string
	at    int // the offset of the next byte
	line  int // the number of its line
	begin int // the offset of the first byte of this line
	out   []Token
	open  []bracket
}

// badText returns the fault of a text that is too long or has a byte that no
// text has.
func badText(text string) api.Fault {
	if len(text) > api.MaxText {
		return api.Fault{At: 0, Code: api.ErrLimit}
	}
	for i := 0; i < len(text); i++ {
		b := text[i]
		if (b < 32 || b > 126) && b != '\t' && b != '\n' {
			return api.Fault{At: i, Code: api.ErrSyntax}
		}
	}
	return api.Fault{}
}

func fail(at int, code api.Errno) {
	panic(api.Fault{At: at, Code: code})
}

// all reads the tokens up to the end of the text.
func (r *reader) all() {
	for r.skip(); r.at < len(r.text); r.skip() {
		scan := r.scanner()
		scan()
	}
	if n := len(r.open); n > 0 {
		fail(r.open[n-1].at, api.ErrSyntax)
	}
}

// scanner returns what reads the token that begins here.
func (r *reader) scanner() func() {
	switch class(r.text[r.at]) {
	case letter:
		return r.word
	case digit:
		return r.number
	case operator:
		return r.operator
	case opening:
		return r.opening
	case closing:
		return r.closing
	case separator:
		return r.separator
	case single:
		return r.single
	case double:
		return r.double
	case dollar:
		return r.dollar
	}
	return r.nothing
}

// skip goes on to the next byte that is neither blank nor in a comment.
func (r *reader) skip() {
	for r.at < len(r.text) {
		switch {
		case r.text[r.at] == '\n':
			r.lineFeed()
		case class(r.text[r.at]) == blank:
			r.at++
		case r.ahead(r.at, "//"):
			r.lineComment()
		case r.ahead(r.at, "/*"):
			r.comment()
		default:
			return
		}
	}
}

func (r *reader) lineFeed() {
	r.at++
	r.line++
	r.begin = r.at
}

func (r *reader) lineComment() {
	for r.at < len(r.text) && r.text[r.at] != '\n' {
		r.at++
	}
}

// comment skips a comment that may have others inside of it.
func (r *reader) comment() {
	start, depth := r.at, 0
	for r.at < len(r.text) {
		switch {
		case r.ahead(r.at, "/*"):
			depth++
			r.at += 2
		case r.ahead(r.at, "*/"):
			depth--
			r.at += 2
			if depth == 0 {
				return
			}
		case r.text[r.at] == '\n':
			r.lineFeed()
		default:
			r.at++
		}
	}
	fail(start, api.ErrSyntax)
}

// ahead reports whether a word stands at an offset.
func (r *reader) ahead(at int, word string) bool {
	return strings.HasPrefix(r.text[at:], word)
}

// put adds the token that begins at start, and goes on behind it, at end.
func (r *reader) put(kind int, text string, start, end int) {
	r.out = append(r.out, Token{Kind: kind, Text: text, At: start, Line: r.line, Col: start - r.begin})
	r.at = end
}

// putName adds a token whose length has a limit.
func (r *reader) putName(kind int, text string, start, end int) {
	if len(text) > api.MaxName {
		fail(start, api.ErrLimit)
	}
	r.put(kind, text, start, end)
}

// nothing is called where no token begins.
func (r *reader) nothing() {
	fail(r.at, api.ErrSyntax)
}

// wordEnd returns the end of the letters and digits from an offset on.
func (r *reader) wordEnd(at int) int {
	for at < len(r.text) && inWord(r.text[at]) {
		at++
	}
	return at
}

// word reads a name, a keyword, an interpolated string or the mark _.
func (r *reader) word() {
	start, end := r.at, r.wordEnd(r.at)
	text := r.text[start:end]
	switch {
	case text == "_":
		r.put(Mark, text, start, end)
	case Keyword(text):
		r.put(Key, text, start, end)
	case r.ahead(end, "\""):
		r.putName(Start, text, start, end+1)
		r.parts()
	default:
		r.putName(Name, text, start, end)
	}
}

// number reads an Int or a Long.
func (r *reader) number() {
	start, end := r.at, r.at
	for end < len(r.text) && class(r.text[end]) == digit {
		end++
	}
	digits, kind, most := r.text[start:end], Int, maxInt
	if r.ahead(end, "L") {
		kind, most = Long, maxLong
		end++
	}
	if len(digits) > 1 && digits[0] == '0' || end < len(r.text) && inWord(r.text[end]) {
		fail(start, api.ErrSyntax)
	}
	if len(digits) > len(most) || len(digits) == len(most) && digits > most {
		fail(start, api.ErrRange)
	}
	r.put(kind, digits, start, end)
}

// operator reads a run of operator bytes, which ends in front of a comment.
func (r *reader) operator() {
	start, end := r.at, r.at+1
	for end < len(r.text) && class(r.text[end]) == operator && !r.ahead(end, "//") && !r.ahead(end, "/*") {
		end++
	}
	text := r.text[start:end]
	switch text {
	case "=", "=>", "<-", ":", "<:", ">:":
		r.put(Mark, text, start, end)
	default:
		r.putName(Op, text, start, end)
	}
}

func (r *reader) separator() {
	r.put(Mark, r.text[r.at:r.at+1], r.at, r.at+1)
}

func (r *reader) opening() {
	r.openMark(r.text[r.at:r.at+1], false)
}

// dollar reads the mark ${ of a splice.
func (r *reader) dollar() {
	if !r.ahead(r.at, "${") {
		r.nothing()
	}
	r.openMark("${", false)
}

// openMark adds a mark that opens a bracket.
func (r *reader) openMark(mark string, inside bool) {
	if len(r.open) >= api.MaxNest {
		fail(r.at, api.ErrDepth)
	}
	r.open = append(r.open, bracket{closer: closer(mark), at: r.at, inside: inside})
	r.put(Mark, mark, r.at, r.at+len(mark))
}

// closing reads a mark that closes a bracket. Behind the expression of an
// interpolated string the string goes on.
func (r *reader) closing() {
	n := len(r.open)
	if n == 0 || r.open[n-1].closer != r.text[r.at] {
		fail(r.at, api.ErrSyntax)
	}
	inside := r.open[n-1].inside
	r.open = r.open[:n-1]
	r.separator()
	if inside {
		r.parts()
	}
}
