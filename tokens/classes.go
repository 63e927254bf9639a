package tokens

// Classes of bytes: what begins with them.
const (
	nothing   = iota // no token
	blank            // nothing but the distance of tokens
	letter           // a name, a keyword, an interpolated string or the mark _
	digit            // a number
	operator         // an operator, or one of the marks that are runs of such bytes
	opening          // a bracket
	closing          // the end of a bracket
	separator        // a mark of one byte
	single           // a char or the mark '{
	double           // a string
	dollar           // the mark ${
)

var classes = [128]uint8{
	'\t': blank, '\n': blank, ' ': blank,
	'!': operator, '%': operator, '&': operator, '*': operator, '+': operator,
	'-': operator, '/': operator, ':': operator, '<': operator, '=': operator,
	'>': operator, '?': operator, '^': operator, '|': operator, '~': operator,
	'(': opening, '[': opening, '{': opening,
	')': closing, ']': closing, '}': closing,
	',': separator, '.': separator, ';': separator, '@': separator,
	'\'': single, '"': double, '$': dollar,
	'0': digit, '1': digit, '2': digit, '3': digit, '4': digit,
	'5': digit, '6': digit, '7': digit, '8': digit, '9': digit,
	'A': letter, 'B': letter, 'C': letter, 'D': letter, 'E': letter,
	'F': letter, 'G': letter, 'H': letter, 'I': letter, 'J': letter,
	'K': letter, 'L': letter, 'M': letter, 'N': letter, 'O': letter,
	'P': letter, 'Q': letter, 'R': letter, 'S': letter, 'T': letter,
	'U': letter, 'V': letter, 'W': letter, 'X': letter, 'Y': letter,
	'Z': letter, '_': letter,
	'a': letter, 'b': letter, 'c': letter, 'd': letter, 'e': letter,
	'f': letter, 'g': letter, 'h': letter, 'i': letter, 'j': letter,
	'k': letter, 'l': letter, 'm': letter, 'n': letter, 'o': letter,
	'p': letter, 'q': letter, 'r': letter, 's': letter, 't': letter,
	'u': letter, 'v': letter, 'w': letter, 'x': letter, 'y': letter,
	'z': letter,
}

// class returns the class of a byte.
func class(b byte) uint8 {
	if b >= 128 {
		return nothing
	}
	return classes[b]
}

// inWord reports whether a byte may stand inside of a name.
func inWord(b byte) bool {
	c := class(b)
	return c == letter || c == digit
}

// closer returns the byte that closes the bracket that a mark opens, or 0 if
// the mark opens none.
func closer(mark string) byte {
	switch mark {
	case "(":
		return ')'
	case "[":
		return ']'
	case "{", "'{", "${":
		return '}'
	}
	return 0
}
