package desugar_test

import (
	"math/rand"
	"strings"

	"newel/api"
	"newel/syntax"
)

// forms are the kids of the kinds by the table of chapter 2. E? stands for E
// or nothing, E.. for any number of E, and E+ for one or more.
const forms = `
SUnit D..
SImport
SClass SMods SNames SLists SParents SBody?
SDef SMods SNames SLists T? E?
SVal SMods T? E?
SType SMods SNames T? T? T?
SGiven SMods SNames SLists T E
SExtension SNames SParam SDef+
SEnumCase SNames SLists SParents
SMods
SNames STParam..
STParam T? T? SNone..
SLists SParams..
SParams SParam..
SParam SMods T E?
SParents SParent..
SParent T E..
SBody S..
TName
TSelect path
TApply T T+
TFunction T.. T
TAnd T T
TOr T T
TSingle path
TWild T? T?
TLambda SNames T
TMatch T TCase+
TCase T T
XName
XSelect E
XApply E E..
XNamed E
XTypes E T+
XInfix E E
XPrefix E
XAssign E E
XInt
XLong
XChar
XString
XTrue
XFalse
XNull
XUnit
XThis
XSuper
XInterp XString
XIf E E E?
XWhile E E
XFor SGenerator enum.. E
SGenerator P E
SBinding P E
SGuard E
XMatch E SCase+
SCase P E? E
XTry E SCases E?
SCases SCase..
XThrow E
XReturn E?
XLambda SLambdaParam.. E
SLambdaParam T?
XBlock S..
XNew SParents SBody?
XTyped E T
XQuote E
XSplice E
PWild
PBind P
PTyped T
PLiteral literal
PStable
PApply P..
PAlt P P+
`

// abbreviations are kinds that are replaced, which random trees have often.
var abbreviations = []int{syntax.XFor, syntax.XInfix, syntax.XAssign, syntax.XPrefix, syntax.XInterp, syntax.XBlock, syntax.XLambda, syntax.XIf, syntax.XFor}

// maker makes random trees.
type maker struct {
	*rand.Rand
	forms [syntax.Kinds][]string
	core  bool // only core trees
	stray bool // also trees with faults
	at    int
}

func newMaker(seed int64) *maker {
	m := &maker{Rand: rand.New(rand.NewSource(seed))}
	for _, line := range strings.Split(strings.TrimSpace(forms), "\n") {
		words := strings.Fields(line)
		m.forms[kindNamed(words[0])] = words[1:]
	}
	return m
}

func kindNamed(name string) int {
	for kind := range syntax.Kinds {
		if syntax.Name(kind) == name {
			return kind
		}
	}
	return -1
}

func (m *maker) pick(words ...string) string { return words[m.Intn(len(words))] }

// class makes a tree of a class of nodes.
func (m *maker) class(class string, depth int) syntax.Node {
	small := map[string]string{"D": "SImport", "E": "XName", "T": "TName", "P": "PWild"}
	switch {
	case class == "S":
		return m.class(m.pick("D", "E", "E"), depth)
	case class == "path" && (depth <= 1 || m.Intn(2) == 0):
		return m.node(kindNamed(m.pick("XName", "XThis")), 1)
	case class == "path":
		return syntax.Node{Kind: syntax.XSelect, Text: m.word(), Kids: []syntax.Node{m.class("path", depth-1)}, At: m.next()}
	case class == "enum":
		return m.node(kindNamed(m.pick("SGenerator", "SBinding", "SBinding", "SGuard")), depth)
	case class == "literal" && m.Intn(3) == 0:
		return syntax.Node{Kind: syntax.XPrefix, Text: "-", Kids: []syntax.Node{m.node(kindNamed(m.pick("XInt", "XLong")), 1)}, At: m.next()}
	case class == "literal":
		return m.node(kindNamed(m.pick("XInt", "XLong", "XChar", "XString", "XTrue", "XFalse", "XNull", "XUnit")), 1)
	case class == "P" && m.Intn(2) == 0:
		return syntax.Node{Kind: syntax.PBind, Text: m.word(), Kids: []syntax.Node{m.node(syntax.PWild, 1)}, At: m.next()}
	case small[class] == "":
		return m.node(kindNamed(class), depth)
	case depth <= 1:
		return m.node(kindNamed(small[class]), 1)
	case class == "E" && m.Intn(2) == 0:
		return m.permitted(abbreviations[m.Intn(len(abbreviations))], depth)
	}
	for {
		kind := m.Intn(syntax.Kinds)
		name := syntax.Name(kind)
		isDefinition := kind >= syntax.SImport && kind <= syntax.SExtension
		if name[0] != small[class][0] || name[0] == 'S' && !isDefinition || name == "TCase" || name == "XNamed" {
			continue
		}
		return m.permitted(kind, depth)
	}
}

// permitted makes a node of a kind, or of another one where core trees have
// none of that kind.
func (m *maker) permitted(kind, depth int) syntax.Node {
	if m.core {
		switch kind {
		case syntax.XInfix, syntax.XPrefix, syntax.XInterp, syntax.XFor:
			kind = syntax.XApply
		case syntax.SExtension:
			kind = syntax.SDef
		}
	}
	return m.node(kind, depth)
}

func (m *maker) next() int {
	m.at++
	return m.at
}

// node makes a tree with a kind at the root. One of the kids is deep.
func (m *maker) node(kind, depth int) syntax.Node {
	n := syntax.Node{Kind: kind, Text: m.text(kind), Num: m.num(kind), At: m.next()}
	var classes []string
	for _, word := range m.forms[kind] {
		least, most := 1, 1
		class, isMany := strings.CutSuffix(word, "..")
		if isMany {
			least, most = 0, 3
		} else if class, isMany = strings.CutSuffix(class, "+"); isMany {
			most = 2
		}
		for range least + m.Intn(most-least+1) {
			classes = append(classes, class)
		}
	}
	deep := m.Intn(max(1, len(classes)))
	for i, class := range classes {
		below := min(depth-1, m.Intn(3))
		if i == deep {
			below = depth - 1
		}
		if name, may := strings.CutSuffix(class, "?"); may && (below <= 0 || m.Intn(3) == 0 && i != deep) {
			class = "SNone"
		} else {
			class = name
		}
		n.Kids = append(n.Kids, m.class(class, below))
	}
	m.mend(&n)
	if m.core {
		m.simplify(&n)
	} else if !m.stray || m.Intn(2) == 0 {
		m.straighten(&n)
	}
	return n
}

func (m *maker) word() string {
	return m.pick("a", "b", "x", "A", "B", "_1", "_2", "_4", "_01", "f_1")
}

func (m *maker) op() string {
	return m.pick("+", "-", "*", "::", "==", "!=", "&&", "||", "+:", "!", ":", "max", "<=", "&&:")
}

func (m *maker) text(kind int) string {
	switch kind {
	case syntax.SClass, syntax.SVal, syntax.SType, syntax.SEnumCase, syntax.STParam, syntax.SParam,
		syntax.TName, syntax.TSelect, syntax.XName, syntax.XNamed, syntax.PBind, syntax.PApply:
		return m.word()
	case syntax.XInterp:
		if m.stray && m.Intn(30) == 0 {
			return "f"
		}
		return "s"
	case syntax.SDef, syntax.XSelect:
		return m.pick(m.word(), m.op())
	case syntax.SGiven, syntax.XSuper:
		return m.pick(m.word(), "")
	case syntax.SLambdaParam, syntax.PTyped:
		return m.pick(m.word(), "_")
	case syntax.XInfix:
		return m.op()
	case syntax.XPrefix:
		return m.pick("-", "!", "~", "+")
	case syntax.XAssign:
		return m.pick("=", "=", "+=", "::=", "&&=", "!==", ":=")
	case syntax.XString:
		return m.pick("", "a", "_1", "_5", "\"$\\{\n\t\x00\xff")
	case syntax.SImport:
		return m.pick(m.word(), m.word()+".*", "a._3")
	case syntax.PStable:
		return m.pick("A", "a.b", "_3")
	}
	return ""
}

func (m *maker) num(kind int) int64 {
	one := func(l ...int64) int64 { return l[m.Intn(len(l))] }
	switch kind {
	case syntax.SClass:
		return one(0, 1, 2, 3, 4, 5, 5, 5)
	case syntax.SVal:
		return one(0, 1, 2)
	case syntax.SMods:
		if m.stray && m.Intn(4) == 0 {
			return api.Final
		}
		return one(0, 0, 0, api.Private, api.Override, api.Abstract+api.Sealed, api.Volatile, api.Inline)
	case syntax.STParam:
		return one(api.Covariant, api.Contravariant, api.Covariant, api.Invariant)
	case syntax.SParam:
		return one(0, 1, 2, 4, 5, 6, 8, 9, 10)
	case syntax.SDef:
		return one(0, 0, 1)
	case syntax.SParams, syntax.XApply, syntax.XFor, syntax.SParent:
		return one(0, 1)
	case syntax.XInt:
		return one(0, 1, 1<<31-1)
	case syntax.XLong:
		return one(0, 7, 1<<63-1)
	case syntax.XChar:
		return one('a', 0, 255)
	}
	return 0
}

// mend gives a node what a right one of its kind needs.
func (m *maker) mend(n *syntax.Node) {
	switch n.Kind {
	case syntax.SType:
		if n.Kids[4].Kind != syntax.SNone {
			n.Kids[2], n.Kids[3] = syntax.Node{}, syntax.Node{}
		}
	case syntax.SExtension:
		for i := range n.Kids[2:] {
			n.Kids[2+i].Num = 0
		}
	case syntax.XApply:
		if m.Intn(3) == 0 {
			n.Kids = append(n.Kids, m.node(syntax.XNamed, m.Intn(3)))
		}
	case syntax.XInterp:
		for range m.Intn(3) {
			n.Kids = append(n.Kids, m.class("E", m.Intn(3)), m.node(syntax.XString, 1))
		}
	case syntax.XNew:
		if len(n.Kids[0].Kids) == 0 {
			n.Kids[0].Kids = []syntax.Node{m.node(syntax.SParent, 1)}
		}
	case syntax.PBind:
		if n.Kids[0].Kind == syntax.PBind {
			n.Kids[0] = m.node(syntax.PWild, 1)
		}
	case syntax.PAlt:
		for i := range n.Kids {
			if n.Kids[i].Kind == syntax.PAlt {
				n.Kids[i] = m.node(syntax.PTyped, m.Intn(3))
			}
		}
	}
}

// straighten takes faults away from a node.
func (m *maker) straighten(n *syntax.Node) {
	switch n.Kind {
	case syntax.SClass:
		if n.Num != 5 {
			return
		}
		if n.Kids[4].Kind == syntax.SNone {
			n.Kids[4] = m.node(syntax.SBody, 1)
		}
		for range 1 + m.Intn(3) {
			c := m.node(syntax.SEnumCase, m.Intn(3))
			for i := range c.Kids {
				if m.Intn(2) == 0 {
					c.Kids[i].Kids = nil
				}
			}
			n.Kids[4].Kids = append(n.Kids[4].Kids, c)
		}
		m.Shuffle(len(n.Kids[4].Kids), func(i, j int) { n.Kids[4].Kids[i], n.Kids[4].Kids[j] = n.Kids[4].Kids[j], n.Kids[4].Kids[i] })
		for i, t := range n.Kids[1].Kids {
			if t.Num == api.Invariant && !m.stray {
				n.Kids[1].Kids[i].Num = api.Covariant
			}
		}
	case syntax.SLists:
		m.order(n)
	case syntax.XAssign:
		n.Kids[0] = m.node(kindNamed(m.pick("XName", "XSelect", "XApply")), 3)
		if left := n.Kids[0].Kids; n.Kids[0].Kind == syntax.XApply && left[len(left)-1].Kind == syntax.XNamed {
			n.Kids[0].Kids = left[:1]
		}
	case syntax.XBlock:
		for i, k := range n.Kids {
			if k.Kind != syntax.SImport && syntax.Name(k.Kind)[0] == 'S' {
				n.Kids[i] = m.value()
			}
		}
	}
}

// order puts the using lists behind the others.
func (m *maker) order(n *syntax.Node) {
	for i := range n.Kids {
		n.Kids[i].Num = int64(min(1, i/2))
	}
}

func (m *maker) value() syntax.Node {
	return syntax.Node{Kind: syntax.SVal, Text: m.word(), At: m.next(), Kids: []syntax.Node{m.node(syntax.SMods, 1), {At: m.next()}, m.class("E", 2)}}
}

// simplify takes abbreviations and faults away from a node.
func (m *maker) simplify(n *syntax.Node) {
	switch n.Kind {
	case syntax.SClass:
		n.Num %= 5
	case syntax.SLists:
		m.order(n)
	case syntax.SLambdaParam:
		n.Text = m.word()
	case syntax.XAssign:
		n.Text = "="
		n.Kids[0] = m.node(kindNamed(m.pick("XName", "XSelect")), 3)
	case syntax.XIf, syntax.XReturn:
		if last := len(n.Kids) - 1; n.Kids[last].Kind == syntax.SNone {
			n.Kids[last] = m.class("E", 1)
		}
	case syntax.XBlock:
		m.straighten(n)
		n.Kids = append(n.Kids, m.class("E", 1))
	}
}
