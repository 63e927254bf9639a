package parser

import (
	"newel/api"
	"newel/syntax"
	"newel/tokens"
)

const maxNested = 100 // others in which a type, expression, pattern or statement is nested

// reader reads trees off a list of tokens with layout. Each rule of the
// grammar is a method; at a fault it panics with an api.Fault.
type reader struct {
	list      []tokens.Token // the last one is Stop
	partner   []int          // of a token that opens a bracket or an indentation: the index of its end
	level     []int          // of each token: how many brackets and indentations it stands in
	next      int            // the index of the token at hand
	far       int            // the index of the last token up to which a rule that was given up went on
	tooDeepAt int            // the index of the first token that was nested too deeply, or 0
	depth     int            // how many rules that count are being read
	tooDeep   bool           // whether the token at hand is the first one of what is nested too deeply

	choices    *choices             // those of the rules that are being read
	guardLevel int                  // the level of the guard that an => may end, or noGuard
	known      map[guardPlace][]way // the ways to read cases from their guards on
}

func newReader(list []tokens.Token) *reader {
	partner, level := brackets(list)
	return &reader{list: list, partner: partner, level: level, guardLevel: noGuard, known: map[guardPlace][]way{}}
}

// brackets finds the ends of brackets and indentations, and how many of them
// each token stands in. Layer 1 has seen to it that they match.
func brackets(list []tokens.Token) (partner, level []int) {
	partner = make([]int, len(list))
	level = make([]int, len(list))
	var open []int
	for i, t := range list {
		if closes(t) {
			last := len(open) - 1
			partner[open[last]] = i
			open = open[:last]
		}
		level[i] = len(open)
		if opens(t) {
			open = append(open, i)
		}
	}
	return partner, level
}

func opens(t tokens.Token) bool {
	if t.Kind == tokens.Mark {
		switch t.Text {
		case "(", "[", "{", "'{", "${":
			return true
		}
	}
	return t.Kind == tokens.Indent
}

func closes(t tokens.Token) bool {
	if t.Kind == tokens.Mark {
		switch t.Text {
		case ")", "]", "}":
			return true
		}
	}
	return t.Kind == tokens.Outdent
}

// at returns the token with an index; Stop is followed by more of its kind.
func (r *reader) at(index int) tokens.Token {
	return r.list[min(index, len(r.list)-1)]
}

func (r *reader) token() tokens.Token {
	return r.at(r.next)
}

// here is the offset of the token at hand.
func (r *reader) here() int {
	return r.token().At
}

// stuck is the fault that no rule goes on with the token at hand, or with a
// later one, up to which a rule went on that was given up; or that a rule could
// go on, but is nested too deeply.
func (r *reader) stuck() api.Fault {
	r.giveUp(r.next)
	if r.tooDeepAt > 0 {
		return api.Fault{At: r.at(r.tooDeepAt).At, Code: api.ErrDepth}
	}
	return api.Fault{At: r.at(r.far).At, Code: api.ErrSyntax}
}

// giveUp leaves what stands in front of a token, with which a rule does not go
// on, for the rules around.
func (r *reader) giveUp(index int) {
	r.far = max(r.far, index)
}

// isAt reports whether a token is a keyword, mark or operator with a text.
func (r *reader) isAt(index int, text string) bool {
	t := r.at(index)
	switch t.Kind {
	case tokens.Key, tokens.Mark, tokens.Op:
		return t.Text == text
	}
	return false
}

func (r *reader) is(text string) bool {
	return r.isAt(r.next, text)
}

// take returns the token at hand, and goes on to the next one.
func (r *reader) take() tokens.Token {
	t := r.token()
	if r.tooDeep {
		if r.tooDeepAt == 0 || r.next < r.tooDeepAt {
			r.tooDeepAt = r.next
		}
		panic(r.stuck())
	}
	r.next++
	return t
}

// accept goes on, if a keyword, mark or operator with one of some texts stands
// there, and reports whether it does.
func (r *reader) accept(texts ...string) bool {
	for _, text := range texts {
		if r.is(text) {
			r.take()
			return true
		}
	}
	return false
}

func (r *reader) expect(text string) {
	if !r.accept(text) {
		panic(r.stuck())
	}
}

// name reads a Name.
func (r *reader) name() string {
	if r.token().Kind != tokens.Name {
		panic(r.stuck())
	}
	return r.take().Text
}

// id reads a Name or an Op.
func (r *reader) id() string {
	if r.token().Kind == tokens.Op {
		return r.take().Text
	}
	return r.name()
}

func (r *reader) isLineEnd(index int) bool {
	return r.at(index).Kind == tokens.Newline || r.isAt(index, ";")
}

// behindLines returns the index of the first token that is no line end.
func (r *reader) behindLines() int {
	i := r.next
	for r.isLineEnd(i) {
		i++
	}
	return i
}

// skipLines skips line ends, and reports whether there are any.
func (r *reader) skipLines() bool {
	from := r.next
	r.next = r.behindLines()
	return r.next > from
}

// acceptBehindLines goes on behind a keyword, if it stands there or behind
// line ends, which otherwise are left for the rules around.
func (r *reader) acceptBehindLines(key string) bool {
	i := r.behindLines()
	if !r.isAt(i, key) {
		r.giveUp(i)
		return false
	}
	r.next = i + 1
	return true
}

// isOpen reports whether a block begins.
func (r *reader) isOpen() bool {
	return r.token().Kind == tokens.Indent || r.is("{")
}

// isClose reports whether a block ends with a token.
func (r *reader) isClose(index int) bool {
	return r.at(index).Kind == tokens.Outdent || r.isAt(index, "}")
}

// inside reads by a rule that must not be nested in too many others. That it
// is turns out when its first token is taken: the rule may not go on with it.
func inside[T any](r *reader, rule func() T) T {
	r.tooDeep = r.depth > maxNested
	r.depth++
	x := rule()
	r.depth--
	return x
}

// separated reads one or more items, between which one of some texts stands.
func separated[T any](r *reader, item func() T, between ...string) []T {
	var list []T
	for {
		x := item()
		list = append(list, x)
		if !r.accept(between...) {
			return list
		}
	}
}

// upTo reads items with commas between them, or none, up to the end of a
// bracket.
func upTo[T any](r *reader, item func() T, end string) []T {
	if r.accept(end) {
		return nil
	}
	list := separated(r, item, ",")
	r.expect(end)
	return list
}

// lines reads at least so many items with line ends between them, up to a
// close or Stop.
func lines[T any](r *reader, least int, item func() T) []T {
	var list []T
	r.skipLines()
	for len(list) < least || !r.isClose(r.next) && r.token().Kind != tokens.Stop {
		x := item()
		list = append(list, x)
		if !r.skipLines() {
			break
		}
	}
	return list
}

// enclosed reads lines from the token that opens them to the one that closes
// them. The choices in them matter for nothing behind them.
func enclosed[T any](r *reader, least int, item func() T) []T {
	made := r.choices.made
	r.take()
	list := lines(r, least, item)
	if !r.isClose(r.next) {
		panic(r.stuck())
	}
	r.take()
	r.choices.settle(made)
	return list
}

// closed reads the end of the parentheses around a node. They belong to its
// text, so its offset is that of the opening one.
func (r *reader) closed(n syntax.Node, at int) syntax.Node {
	r.expect(")")
	n.At = at
	return n
}

// tree makes a node.
func tree(kind, at int, kids ...syntax.Node) syntax.Node {
	return syntax.Node{Kind: kind, At: at, Kids: kids}
}

// named makes a node with a text.
func named(kind, at int, text string, kids ...syntax.Node) syntax.Node {
	return syntax.Node{Kind: kind, At: at, Text: text, Kids: kids}
}

// empty makes a node for something that is left out where the next token
// stands.
func (r *reader) empty(kind int) syntax.Node {
	return syntax.Node{Kind: kind, At: r.here()}
}

// none makes the node SNone.
func (r *reader) none() syntax.Node {
	return r.empty(syntax.SNone)
}
