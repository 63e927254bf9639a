package printer

import (
	"newel/api"
	"newel/tokens"
)

// wordEnd returns how many tokens the first word of a list has.
func wordEnd(list []tokens.Token) int {
	open := 0
	for i, t := range list {
		switch t.Kind {
		case tokens.Start:
			open++
		case tokens.End:
			open--
		}
		if open == 0 {
			return i + 1
		}
	}
	return len(list)
}

// wordOf returns the text of the tokens of a word. A bracket alone has no
// text by which it could be shown.
func wordOf(list []tokens.Token) (string, api.Errno) {
	switch list[0].Kind {
	case tokens.Long, tokens.Char, tokens.String, tokens.Start:
		return tokens.Show(list)
	}
	return list[0].Text, api.OK
}
