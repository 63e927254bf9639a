package syntax_test

import (
	"slices"
	"strconv"
	"strings"

	"newel/api"
	"newel/syntax"
)

// names are the names of all kinds, in order.
var names = strings.Fields(`SNone SUnit SImport SClass SDef SVal SType SGiven SExtension SEnumCase SMods SNames STParam SLists SParams SParam SParents SParent SBody
TName TSelect TApply TFunction TAnd TOr TSingle TWild TLambda TMatch TCase
XName XSelect XApply XNamed XTypes XInfix XPrefix XAssign XInt XLong XChar XString XTrue XFalse XNull XUnit XThis XSuper XInterp XIf XWhile XFor
SGenerator SBinding SGuard XMatch SCase XTry SCases XThrow XReturn XLambda SLambdaParam XBlock XNew XTyped XQuote XSplice
PWild PBind PTyped PLiteral PStable PApply PAlt`)

func fault(at int, code api.Errno) api.Fault {
	return api.Fault{At: at, Code: code}
}

func node(kind int, kids ...syntax.Node) syntax.Node {
	return syntax.Node{Kind: kind, Kids: kids}
}

// tree makes a tree, right or not, from its text form without escapes. A kind
// may also be a number.
func tree(form string) syntax.Node {
	n, rest := cutTree(form)
	if rest != "" {
		panic(form)
	}
	return n
}

func cutTree(form string) (n syntax.Node, rest string) {
	word, rest := cutWord(strings.TrimPrefix(form, "("))
	n.Kind = slices.Index(names, word)
	if kind, err := strconv.Atoi(word); err == nil {
		n.Kind = kind
	}
	if strings.HasPrefix(rest, " \"") {
		n.Text, rest, _ = strings.Cut(rest[2:], "\"")
	}
	if strings.HasPrefix(rest, " ") && rest[1] != '(' {
		word, rest = cutWord(rest[1:])
		n.Num, _ = strconv.ParseInt(word, 10, 64)
	}
	for strings.HasPrefix(rest, " ") {
		var kid syntax.Node
		kid, rest = cutTree(rest[1:])
		n.Kids = append(n.Kids, kid)
	}
	return n, rest[1:]
}

func cutWord(s string) (word, rest string) {
	end := strings.IndexAny(s, " )")
	return s[:end], s[end:]
}

// times writes something several times, each with a blank in front.
func times(count int, form string) string {
	return strings.Repeat(" "+form, count)
}

// chain is a tree of so many nodes, each in the one ahead of it.
func chain(length int) syntax.Node {
	n := node(syntax.XUnit)
	for range length - 1 {
		n = node(syntax.XQuote, n)
	}
	return n
}

// wide is a right tree of so many nodes, from 1 to 40000.
func wide(size int) syntax.Node {
	root := node(syntax.XBlock)
	for size--; size > 0; {
		kid := node(syntax.XBlock)
		for size--; size > 0 && len(kid.Kids) < 200; size-- {
			kid.Kids = append(kid.Kids, node(syntax.XUnit))
		}
		root.Kids = append(root.Kids, kid)
	}
	return root
}

// ring is a node that is each one of its own kids.
func ring(kids int) syntax.Node {
	list := make([]syntax.Node, kids)
	for i := range list {
		list[i] = syntax.Node{Kind: syntax.XBlock, Kids: list}
	}
	return list[0]
}

// doubled is a tree of so many levels whose lists of two kids are one list.
func doubled(levels int) syntax.Node {
	n := node(syntax.XUnit)
	for range levels - 1 {
		n = node(syntax.XBlock, n, n)
	}
	return n
}

// deepCopy returns a tree in new memory.
func deepCopy(n syntax.Node) syntax.Node {
	kids := n.Kids
	n.Kids = nil
	for _, k := range kids {
		n.Kids = append(n.Kids, deepCopy(k))
	}
	return n
}

// spoil changes all memory that a tree has.
func spoil(n syntax.Node) {
	for i := range n.Kids {
		spoil(n.Kids[i])
		n.Kids[i] = syntax.Node{Kind: -1, Text: "spoilt"}
	}
}
