package syntax

import (
	"strconv"

	"newel/api"
)

const (
	maxForm = 4 * api.MaxText // bytes of a text form

	hexDigits = "0123456789abcdef"
)

// writer writes text forms, until there are too many bytes: then it is full.
type writer struct {
	out  []byte
	full bool
}

// put writes words one behind the other.
func (w *writer) put(words ...string) {
	for _, word := range words {
		if len(w.out)+len(word) > maxForm {
			w.full = true
			return
		}
		w.out = append(w.out, word...)
	}
}

func (w *writer) node(n *Node) {
	w.put("(", Name(n.Kind))
	if n.Text != "" {
		w.put(" \"", escaped(n.Text), "\"")
	}
	if n.Num != 0 {
		w.put(" ", strconv.FormatInt(n.Num, 10))
	}
	for i := range n.Kids {
		if w.full {
			return
		}
		w.put(" ")
		w.node(&n.Kids[i])
	}
	w.put(")")
}

// escaped returns the characters that stand for bytes.
func escaped(text string) string {
	var out []byte
	for i := 0; i < len(text); i++ {
		b := text[i]
		switch {
		case b == '\\' || b == '"':
			out = append(out, '\\', b)
		case b == '\n':
			out = append(out, '\\', 'n')
		case b == '\t':
			out = append(out, '\\', 't')
		case !printable(b):
			out = append(out, '\\', 'x', hexDigits[b>>4], hexDigits[b&15])
		default:
			out = append(out, b)
		}
	}
	return string(out)
}

func printable(b byte) bool {
	return b >= 32 && b <= 126
}
