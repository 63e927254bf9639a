package tokens

import "newel/api"

const hexDigits = "0123456789abcdef"

// canonical returns the canonical forms of tokens, with the blanks between
// them; false: there are more bytes than a text may have.
func canonical(l []Token) (string, bool) {
	var out []byte
	for i, t := range l {
		if i > 0 && spaced(l[i-1], t) {
			out = append(out, ' ')
		}
		out = appendToken(out, l[:i], t)
		if len(out) > api.MaxText {
			return "", false
		}
	}
	return string(out), true
}

// spaced reports whether a blank stands between two tokens.
func spaced(a, b Token) bool {
	return a.Kind != Start && a.Kind != Part && b.Kind != Part
}

// appendToken appends the canonical form of a token behind the tokens front.
func appendToken(out []byte, front []Token, t Token) []byte {
	last := -1
	if len(front) > 0 {
		last = front[len(front)-1].Kind
	}
	switch t.Kind {
	case Name, Key:
		if last == Part {
			out = append(out, '$')
		}
	case Long:
		return append(append(out, t.Text...), 'L')
	case Char:
		return append(appendBytes(append(out, '\''), t.Text, "'{"), '\'')
	case String:
		return append(appendBytes(append(out, '"'), t.Text, "\""), '"')
	case Start:
		return append(append(out, t.Text...), '"')
	case Part:
		return appendPart(out, t.Text, last == Name || last == Key)
	case End:
		return append(out, '"')
	}
	return append(out, t.Text...)
}

// appendPart appends a Part. Behind a name, a first byte that would go on with
// the name is written as an escape.
func appendPart(out []byte, text string, afterName bool) []byte {
	if afterName && text != "" && inWord(text[0]) {
		out = appendHex(out, text[0])
		text = text[1:]
	}
	return appendBytes(out, text, "\"$")
}

// appendBytes appends the characters that stand for bytes, where the bytes
// special are written as escapes.
func appendBytes(out []byte, text, special string) []byte {
	for i := 0; i < len(text); i++ {
		out = appendByte(out, text[i], special)
	}
	return out
}

func appendByte(out []byte, b byte, special string) []byte {
	switch {
	case b == '\n':
		return append(out, '\\', 'n')
	case b == '\t':
		return append(out, '\\', 't')
	case b == '\\':
		return append(out, '\\', '\\')
	case b < 32 || b > 126:
		return appendHex(out, b)
	}
	for i := 0; i < len(special); i++ {
		if special[i] != b {
			continue
		}
		if b == '{' { // there is no escape \{
			return appendHex(out, b)
		}
		return append(out, '\\', b)
	}
	return append(out, b)
}

func appendHex(out []byte, b byte) []byte {
	return append(out, '\\', 'x', hexDigits[b>>4], hexDigits[b&15])
}

// sameTokens reports whether two lists have the same kinds and texts.
func sameTokens(a, b []Token) bool {
	if len(a) != len(b) {
		return false
	}
	for i := range a {
		if a[i].Kind != b[i].Kind || a[i].Text != b[i].Text {
			return false
		}
	}
	return true
}
