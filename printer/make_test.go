package printer_test

import (
	"math/rand"
	"strings"

	"newel/api"
	"newel/syntax"
)

// forms are the kids of the kinds by the table of chapter 2, and where the
// grammar makes fewer ones, those. E? stands for E or nothing, E.. for any
// number of E, and E+ for one or more.
const forms = `
SUnit D..
SImport
SClass SMods SNames SLists SParents SBody?
SDef SMods SNames SLists T? E?
SVal SMods T? E?
SType SMods SNames T? T? T?
SGiven SMods SNames SLists T E
SExtension SNames SParam SDef+
SEnumCase SNames SLists SParents
SMods
SNames STParam..
STParam T? T? SNone..
SLists SParams..
SParams SParam..
SParam SMods T E?
SParents SParent..
SParent T E..
SBody S..
TName
TSelect path
TApply T T+
TFunction T.. T
TAnd T T
TOr T T
TSingle path
TWild T? T?
TLambda SNames T
TMatch T TCase+
TCase T T
XName
XSelect E
XApply E E..
XNamed E
XTypes E T+
XInfix E E
XPrefix E
XAssign E E
XInt
XLong
XChar
XString
XTrue
XFalse
XNull
XUnit
XThis
XSuper
XInterp XString
XIf E E E?
XWhile E E
XFor SGenerator enum.. E
SGenerator P E
SBinding P E
SGuard E
XMatch E SCase+
SCase P E? E
XTry E SCases E?
SCases SCase..
XThrow E
XReturn E?
XLambda SLambdaParam.. E
SLambdaParam T?
XBlock S..
XNew SParents SBody?
XTyped E T
XQuote XBlock
XSplice XBlock
PWild
PBind P
PTyped T
PLiteral literal
PStable
PApply P..
PAlt P P+
`

// maker makes random trees.
type maker struct {
	*rand.Rand
	forms [syntax.Kinds][]string
	odd   bool // also trees that have no text
}

func newMaker(seed int64, odd bool) *maker {
	m := &maker{Rand: rand.New(rand.NewSource(seed)), odd: odd}
	for _, line := range strings.Split(strings.TrimSpace(forms), "\n") {
		words := strings.Fields(line)
		m.forms[kindNamed(words[0])] = words[1:]
	}
	return m
}

func kindNamed(name string) int {
	for kind := range syntax.Kinds {
		if syntax.Name(kind) == name {
			return kind
		}
	}
	return -1
}

func (m *maker) pick(words ...string) string { return words[m.Intn(len(words))] }

// class makes a tree of a class of nodes.
func (m *maker) class(class string, depth int) syntax.Node {
	small := map[string]string{"D": "SImport", "S": "XName", "E": "XName", "T": "TName", "P": "PWild"}
	switch {
	case class == "S" && m.Intn(2) == 0:
		return m.class("D", depth)
	case class == "S":
		return m.class("E", depth)
	case class == "path":
		if depth <= 1 || m.Intn(2) == 0 {
			return m.node(kindNamed(m.pick("XName", "XThis")), 1)
		}
		return syntax.Node{Kind: syntax.XSelect, Text: m.word(), Kids: []syntax.Node{m.class("path", depth-1)}}
	case class == "enum":
		return m.node(kindNamed(m.pick("SGenerator", "SBinding", "SGuard")), depth)
	case class == "literal":
		return m.literal()
	case small[class] == "":
		return m.node(kindNamed(class), depth)
	case depth <= 1:
		return m.node(kindNamed(small[class]), 1)
	}
	for {
		kind := m.Intn(syntax.Kinds)
		name := syntax.Name(kind)
		isDefinition := kind >= syntax.SImport && kind <= syntax.SExtension
		if name[0] != small[class][0] || name[0] == 'S' && !isDefinition || name == "TCase" || name == "XNamed" {
			continue
		}
		if m.odd || name != "TWild" && name != "XSuper" {
			return m.node(kind, depth)
		}
	}
}

func (m *maker) literal() syntax.Node {
	kinds := []string{"XInt", "XLong", "XChar", "XString", "XTrue", "XFalse", "XNull", "XUnit"}
	if m.Intn(3) == 0 {
		return syntax.Node{Kind: syntax.XPrefix, Text: "-", Kids: []syntax.Node{m.node(kindNamed(m.pick("XInt", "XLong")), 1)}}
	}
	return m.node(kindNamed(m.pick(kinds...)), 1)
}

// node makes a tree with a kind at the root. One of the kids is deep.
func (m *maker) node(kind, depth int) syntax.Node {
	n := syntax.Node{Kind: kind, Text: m.text(kind), Num: m.num(kind)}
	var classes []string
	for _, word := range m.forms[kind] {
		least, most, isMany := 1, 1, false
		class, isMany := strings.CutSuffix(word, "..")
		if isMany {
			least, most = 0, 3
		} else if class, isMany = strings.CutSuffix(class, "+"); isMany {
			most = 2
		}
		for range least + m.Intn(most-least+1) {
			classes = append(classes, class)
		}
	}
	deep := m.Intn(max(1, len(classes)))
	for i, class := range classes {
		below := min(depth-1, m.Intn(3))
		if i == deep {
			below = depth - 1
		}
		if name, may := strings.CutSuffix(class, "?"); may && (below <= 0 || m.Intn(3) == 0 && i != deep) {
			class = "SNone"
		} else {
			class = name
		}
		n.Kids = append(n.Kids, m.class(class, below))
	}
	return m.mended(n)
}

func (m *maker) word() string {
	if m.odd && m.Intn(40) == 0 {
		return m.pick("if", "type", "this", "return")
	}
	return m.pick("a", "b", "x", "A", "B", "_c", "typed", "a1", "f_1")
}

func (m *maker) op() string {
	if m.odd && m.Intn(40) == 0 {
		return m.pick("=", "=>", "//", "+/*", "/", ":", "+=", "<:")
	}
	return m.pick("+", "-", "*", "::", "==", "|", "&&", "+:", "*:", "<", "^:", "~", "?", "!", "/", "%:", "<=")
}

func (m *maker) text(kind int) string {
	switch kind {
	case syntax.SClass, syntax.SVal, syntax.SType, syntax.SEnumCase, syntax.STParam, syntax.SParam,
		syntax.TName, syntax.TSelect, syntax.XName, syntax.XNamed, syntax.XInterp, syntax.PBind:
		return m.word()
	case syntax.SDef, syntax.XSelect:
		return m.pick(m.word(), m.op())
	case syntax.SGiven, syntax.XSuper:
		return m.pick(m.word(), "")
	case syntax.SLambdaParam, syntax.PTyped:
		return m.pick(m.word(), "_")
	case syntax.XInfix:
		return m.op()
	case syntax.XPrefix:
		return m.pick("-", "!", "~", "+")
	case syntax.XAssign:
		return m.pick("=", "=", "+=", "::=", "/=")
	case syntax.XString:
		return m.pick("", "a", " b", "\"$\\{\n\t\x00\xff", "1", "_x", "//")
	case syntax.SImport:
		return m.pick(m.word(), m.word()+".*", "a.b.C.*", "a.b")
	case syntax.PStable:
		return m.pick("A", "B1", "a.b", "A.b."+m.word())
	case syntax.PApply:
		return m.pick("a", "A", "a.b", "A.b."+m.word())
	}
	return ""
}

func (m *maker) num(kind int) int64 {
	one := func(l ...int64) int64 { return l[m.Intn(len(l))] }
	switch kind {
	case syntax.SClass:
		return one(0, 1, 2, 3, 4, 5)
	case syntax.SVal:
		return one(0, 1, 2)
	case syntax.SMods:
		return one(0, 0, 0, api.Private, api.Final+api.Override, api.Abstract+api.Sealed, api.Volatile, api.Inline)
	case syntax.STParam:
		return one(api.Invariant, api.Covariant, api.Contravariant)
	case syntax.SParam:
		return one(0, 1, 2, 4, 5, 6, 8, 9, 10)
	case syntax.SParams, syntax.XApply, syntax.XFor:
		return one(0, 0, 1)
	case syntax.XInt:
		return one(0, 1, 1<<31-1)
	case syntax.XLong:
		return one(0, 7, 1<<63-1)
	case syntax.XChar:
		return one('a', '\'', '{', '\n', '\t', 0, 255, '"')
	}
	return 0
}

// mended returns a node with what its kind needs otherwise.
func (m *maker) mended(n syntax.Node) syntax.Node {
	switch n.Kind {
	case syntax.SClass:
		if n.Num == 2 || n.Num == 4 {
			n.Kids[1].Kids, n.Kids[2].Kids = nil, nil
		}
		if n.Num == 5 {
			if n.Kids[4].Kind == syntax.SNone {
				n.Kids[4].Kind = syntax.SBody
			}
			n.Kids[4].Kids = append(n.Kids[4].Kids, m.node(syntax.SEnumCase, m.Intn(3)))
			m.Shuffle(len(n.Kids[4].Kids), func(i, j int) { n.Kids[4].Kids[i], n.Kids[4].Kids[j] = n.Kids[4].Kids[j], n.Kids[4].Kids[i] })
		}
	case syntax.SType:
		if n.Kids[4].Kind != syntax.SNone {
			n.Kids[2], n.Kids[3] = syntax.Node{}, syntax.Node{}
		}
	case syntax.SGiven:
		if n.Text == "" && !m.odd {
			n.Kids[1].Kids, n.Kids[2].Kids = nil, nil
		}
	case syntax.SParent:
		n.Num = int64(min(1, len(n.Kids)-1))
	case syntax.TLambda:
		if len(n.Kids[0].Kids) == 0 && !m.odd {
			n.Kids[0].Kids = []syntax.Node{m.node(syntax.STParam, 1)}
		}
	case syntax.TApply:
		for i := range n.Kids[1:] {
			if m.Intn(3) == 0 {
				n.Kids[1+i] = m.node(syntax.TWild, m.Intn(3))
			}
		}
	case syntax.XSelect:
		if m.Intn(8) == 0 {
			n.Kids[0] = m.node(syntax.XSuper, 1)
		}
	case syntax.XApply:
		if m.Intn(3) == 0 {
			n.Kids = append(n.Kids, m.node(syntax.XNamed, m.Intn(3)))
		}
	case syntax.XInterp:
		for range m.Intn(3) {
			n.Kids = append(n.Kids, m.class(m.pick("E", "E", "XName", "XThis"), m.Intn(3)), m.node(syntax.XString, 1))
		}
	case syntax.XNew:
		if len(n.Kids[0].Kids) == 0 {
			n.Kids[0].Kids = []syntax.Node{m.node(syntax.SParent, 1)}
		}
	case syntax.PBind:
		if n.Kids[0].Kind == syntax.PBind {
			n.Kids[0] = syntax.Node{Kind: syntax.PWild}
		}
	case syntax.PAlt:
		for i := range n.Kids {
			if n.Kids[i].Kind == syntax.PAlt {
				n.Kids[i] = m.node(syntax.PTyped, m.Intn(3))
			}
		}
	}
	return n
}
