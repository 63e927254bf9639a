package tokens_test

import (
	"fmt"
	"strings"

	"newel/api"
	"newel/tokens"
)

var kindNames = []string{"Name", "Key", "Op", "Mark", "Int", "Long", "Char", "String", "Start", "Part", "End", "Newline", "Indent", "Outdent", "Stop"}

// kindsAndTexts writes each token as its kind and its text: Name"x" Mark"=".
func kindsAndTexts(l []tokens.Token) string {
	var out []string
	for _, t := range l {
		out = append(out, fmt.Sprintf("%s%q", kindNames[t.Kind], t.Text))
	}
	return strings.Join(out, " ")
}

// places writes each token as At:Line:Col.
func places(l []tokens.Token) string {
	var out []string
	for _, t := range l {
		out = append(out, fmt.Sprintf("%d:%d:%d", t.At, t.Line, t.Col))
	}
	return strings.Join(out, " ")
}

// laidOut writes each token as its text, and those of layout as NL, IN, OUT
// and STOP.
func laidOut(l []tokens.Token) string {
	var out []string
	for _, t := range l {
		switch t.Kind {
		case tokens.Newline:
			out = append(out, "NL")
		case tokens.Indent:
			out = append(out, "IN")
		case tokens.Outdent:
			out = append(out, "OUT")
		case tokens.Stop:
			out = append(out, "STOP")
		case tokens.Start:
			out = append(out, t.Text+"\"")
		case tokens.End:
			out = append(out, "\"")
		default:
			out = append(out, t.Text)
		}
	}
	return strings.Join(out, " ")
}

func fault(at int, code api.Errno) api.Fault {
	return api.Fault{At: at, Code: code}
}

const keywords = "abstract case catch class def do else enum extends extension false final finally for given if import inline lazy match new null object override private return sealed super then this throw trait true try type using val var volatile while with yield"
