package tokens

import (
	"strings"

	"newel/api"
)

// single reads a Char, or the mark '{.
func (r *reader) single() {
	if r.ahead(r.at, "'{") {
		r.openMark("'{", false)
		return
	}
	start := r.at
	text := r.quoted(start, start+1, "'")
	if len(text) != 1 {
		fail(start, api.ErrSyntax)
	}
	r.put(Char, text, start, r.at+1)
}

// double reads a String.
func (r *reader) double() {
	start := r.at
	text := r.quoted(start, start+1, "\"")
	r.put(String, text, start, r.at+1)
}

// parts reads an interpolated string from a Part on, up to its end, or up to
// an expression in braces.
func (r *reader) parts() {
	for {
		start := r.at
		text := r.quoted(start, start, "\"$")
		r.put(Part, text, start, r.at)
		switch {
		case r.ahead(r.at, "\""):
			r.put(End, "", r.at, r.at+1)
			return
		case r.ahead(r.at, "${"):
			r.openMark("${", true)
			return
		}
		r.inserted()
	}
}

// inserted reads a $ and the name behind it, in an interpolated string.
func (r *reader) inserted() {
	start := r.at + 1
	end := r.wordEnd(start)
	text := r.text[start:end]
	if text == "" || text == "_" || class(text[0]) == digit {
		fail(r.at, api.ErrSyntax)
	}
	if Keyword(text) {
		r.put(Key, text, start, end)
		return
	}
	r.putName(Name, text, start, end)
}

// quoted reads characters, from an offset up to one of the bytes stops, and
// returns the bytes that they stand for. The token begins at start.
func (r *reader) quoted(start, at int, stops string) string {
	var out []byte
	r.at = at
	for r.at < len(r.text) && strings.IndexByte(stops, r.text[r.at]) < 0 {
		b := r.character(start)
		out = append(out, b)
	}
	if r.at == len(r.text) {
		fail(start, api.ErrSyntax)
	}
	return string(out)
}

// character reads a character of a literal that begins at start.
func (r *reader) character(start int) byte {
	b := r.text[r.at]
	if b < 32 {
		fail(start, api.ErrSyntax)
	}
	r.at++
	if b != '\\' {
		return b
	}
	return r.escape(start)
}

// escape reads what stands behind a backslash.
func (r *reader) escape(start int) byte {
	if r.at == len(r.text) {
		fail(start, api.ErrSyntax)
	}
	b := r.text[r.at]
	r.at++
	switch b {
	case 'n':
		return '\n'
	case 't':
		return '\t'
	case '\\', '\'', '"', '$':
		return b
	case 'x':
		high := r.hex(start)
		low := r.hex(start)
		return high<<4 | low
	}
	fail(start, api.ErrSyntax)
	return 0
}

// hex reads a hexadecimal digit.
func (r *reader) hex(start int) byte {
	value := -1
	if r.at < len(r.text) {
		value = strings.IndexByte(hexDigits, r.text[r.at])
	}
	if value < 0 {
		fail(start, api.ErrSyntax)
	}
	r.at++
	return byte(value)
}
