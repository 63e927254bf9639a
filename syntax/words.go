package syntax

import (
	"strings"

	"newel/api"
)

const (
	operatorBytes = "+-*/%<>=!&|^~:?"

	maxPath = 8 // names of a path
)

// isWord reports whether a text is a name of letters.
func isWord(s string) bool {
	if s == "" || s == "_" || len(s) > api.MaxName {
		return false
	}
	for i := 0; i < len(s); i++ {
		if !isLetter(s[i]) && s[i] != '_' && (i == 0 || !isDigit(s[i])) {
			return false
		}
	}
	return true
}

// isOperator reports whether a text is a name of operator bytes.
func isOperator(s string) bool {
	if s == "" || len(s) > api.MaxName {
		return false
	}
	for i := 0; i < len(s); i++ {
		if strings.IndexByte(operatorBytes, s[i]) < 0 {
			return false
		}
	}
	return true
}

// isPath reports whether a text is names of letters with points between.
func isPath(s string) bool {
	names := strings.Split(s, ".")
	for _, name := range names {
		if !isWord(name) {
			return false
		}
	}
	return len(names) <= maxPath
}

// isImport reports whether a text is a path whose last name may be *.
func isImport(s string) bool {
	front, all := strings.CutSuffix(s, "*")
	if !all {
		return isPath(s)
	}
	// A name takes the place of the *, behind a point or alone.
	return (front == "" || front[len(front)-1] == '.') && isPath(front+"x")
}

func isLetter(b byte) bool {
	return b >= 'A' && b <= 'Z' || b >= 'a' && b <= 'z'
}

func isDigit(b byte) bool {
	return b >= '0' && b <= '9'
}
