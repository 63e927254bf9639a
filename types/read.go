package types

import (
	"slices"
	"strconv"
	"strings"

	"newel/api"
	"newel/symbols"
)

// What names consist of, and what stands in a full name besides.
const (
	nameBytes = "abcdefghijklmnopqrstuvwxyzABCDEFGHIJKLMNOPQRSTUVWXYZ_$0123456789+-*/%<>=!&|^~:?"
	pathBytes = nameBytes + ".#"
)

// Read returns the type that has a text.
func Read(env api.Env, s string) (api.Type, api.Fault) {
	if len(s) > api.MaxText {
		return api.Type{}, api.Fault{Code: api.ErrLimit}
	}
	r := reader{env: env, rest: s}
	t := r.read()
	if r.failed || !isText(env, t, s) {
		return api.Type{}, api.Fault{Code: api.ErrSyntax}
	}
	return t, api.Fault{}
}

// isText reports whether a text is that of a type. The reader takes others,
// too, such as wrong names in front of a number, or numbers that begin with 0.
func isText(env api.Env, t api.Type, s string) bool {
	text, e := Text(env, t)
	return e == api.OK && text == s
}

// reader reads a text by rules. When it has failed, nothing is left of the
// text.
type reader struct {
	env     api.Env
	rest    string
	nested  int
	failed  bool
	classes map[string]int // by their full names
}

func (r *reader) fail() {
	r.failed = true
	r.rest = ""
}

// has reports whether the rest begins with a text, and goes on behind it.
func (r *reader) has(s string) bool {
	rest, found := strings.CutPrefix(r.rest, s)
	if found {
		r.rest = rest
	}
	return found
}

// want goes on behind a text.
func (r *reader) want(s string) {
	if !r.has(s) {
		r.fail()
	}
}

// run goes on behind some of the bytes given, and returns what they are.
func (r *reader) run(bytes string) string {
	end := 0
	for end < len(r.rest) && strings.IndexByte(bytes, r.rest[end]) >= 0 {
		end++
	}
	s := r.rest[:end]
	r.rest = r.rest[end:]
	return s
}

func (r *reader) number() int {
	n, err := strconv.Atoi(r.run("0123456789"))
	if err != nil {
		r.fail()
	}
	return n
}

// class returns the class with a full name.
func (r *reader) class(name string) int {
	if r.classes == nil {
		r.classes = classNames(r.env.P)
	}
	i, found := r.classes[name]
	if !found {
		r.fail()
	}
	return i
}

// classNames returns the first class that has each full name.
func classNames(p api.Program) map[string]int {
	names := map[string]int{}
	for i := range p.Classes {
		name, e := symbols.FullName(p, i)
		if _, known := names[name]; !known && e == api.OK {
			names[name] = i
		}
	}
	return names
}

// read reads a type, or a list of types in parentheses, as it stands in a TFun:
// this is a TNone, which Check does not accept anywhere else.
func (r *reader) read() api.Type {
	// A TFun and the list in it are one level of the type.
	if r.nested == 2*api.MaxNest {
		r.fail()
		return api.Type{}
	}
	r.nested++
	t := r.first()
	for more := true; more; {
		t, more = r.further(t)
	}
	r.nested--
	return t
}

// further reads an application or a selection behind a type, if there is one.
func (r *reader) further(t api.Type) (api.Type, bool) {
	switch {
	case r.has("("):
		return api.Type{Kind: api.TApply, Args: r.list(t, ", ", ")")}, true
	case r.has("."):
		return r.member(t), true
	}
	return t, false
}

// list reads the types of a list behind its first ones, up to its end.
func (r *reader) list(first api.Type, between, end string) []api.Type {
	l := []api.Type{first, r.read()}
	for !r.failed && !r.has(end) {
		r.want(between)
		l = append(l, r.read())
	}
	return l
}

// choice is a rule for what begins with a text.
type choice struct {
	begin string
	read  func() api.Type
}

// first reads a type up to the first application or selection.
func (r *reader) first() api.Type {
	for _, c := range []choice{{"(", r.group}, {"{", r.lambda}, {"#", r.bound}} {
		if r.has(c.begin) {
			return c.read()
		}
	}
	return r.named(r.run(pathBytes))
}

func (r *reader) lambda() api.Type {
	t := api.Type{Kind: api.TLambda, Num: r.number()}
	r.want(" => ")
	t.Args = []api.Type{r.read()}
	r.want("}")
	return t
}

func (r *reader) bound() api.Type {
	t := api.Type{Kind: api.TBound, Num: r.number()}
	r.want("^")
	t.Sym = r.number()
	return t
}

// named reads a type that begins with a name.
func (r *reader) named(name string) api.Type {
	switch {
	case r.has("'"):
		return api.Type{Kind: api.TParam, Sym: r.number()}
	case r.has("@"):
		return api.Type{Kind: api.TLocal, Sym: r.number()}
	case r.has("["):
		return r.classType(name)
	case name == "Array" && r.has("("):
		return r.closed(api.TArray, ")")
	case name == "this" && r.has("("):
		t := api.Type{Kind: api.TThis, Sym: r.class(r.run(pathBytes))}
		r.want(")")
		return t
	}
	if number, isVar := strings.CutPrefix(name, "?"); isVar {
		n, err := strconv.Atoi(number)
		if err != nil {
			r.fail()
		}
		return api.Type{Kind: api.TVar, Num: n}
	}
	return r.word(name)
}

// word returns the type that is written as a word alone.
func (r *reader) word(name string) api.Type {
	for kind, word := range words {
		if kind != api.TNone && word == name {
			return api.Type{Kind: kind}
		}
	}
	r.fail()
	return api.Type{}
}

// closed reads a type of a kind with one of Args, up to its end.
func (r *reader) closed(kind int, end string) api.Type {
	t := api.Type{Kind: kind, Args: []api.Type{r.read()}}
	r.want(end)
	return t
}

// classType reads the arguments of a class.
func (r *reader) classType(name string) api.Type {
	t := api.Type{Kind: api.TClass, Sym: r.class(name)}
	if !r.has("]") {
		t.Args = r.list(t, ", ", "]")[1:]
	}
	return t
}

// member reads a member of a prefix.
func (r *reader) member(prefix api.Type) api.Type {
	r.run(nameBytes)
	t := api.Type{Kind: api.TMember, Args: []api.Type{prefix}}
	if !r.has("'") {
		t.Kind = api.TField
		r.want("@")
	}
	t.Sym = r.number()
	return t
}

// ending is a rule for what stands in parentheses and goes on with a text behind
// the first type.
type ending struct {
	begin string
	read  func(first api.Type) api.Type
}

// group reads what stands behind an opening parenthesis.
func (r *reader) group() api.Type {
	switch {
	case r.has(")"):
		return api.Type{}
	case r.has("=> "):
		return r.closed(api.TByName, ")")
	case r.has("? >: "):
		return r.wild()
	}
	first := r.read()
	endings := [...]ending{
		{")", r.one}, {", ", r.several}, {" => ", r.function}, {" & ", r.and}, {" | ", r.or},
		{" *)", r.repeated}, {" match ", r.match}, {" with ", r.refined},
	}
	for _, e := range endings {
		if r.has(e.begin) {
			return e.read(first)
		}
	}
	r.fail()
	return api.Type{}
}

func (r *reader) wild() api.Type {
	t := api.Type{Kind: api.TWild, Args: []api.Type{r.read()}}
	r.want(" <: ")
	t.Args = append(t.Args, r.read())
	r.want(")")
	return t
}

// one is the ending of a list of one type.
func (r *reader) one(first api.Type) api.Type {
	return api.Type{Args: []api.Type{first}}
}

// several is the ending of a list of several types.
func (r *reader) several(first api.Type) api.Type {
	return api.Type{Args: r.list(first, ", ", ")")}
}

func (r *reader) function(params api.Type) api.Type {
	if params.Kind != api.TNone {
		r.fail()
	}
	result := r.closed(api.TFun, ")")
	result.Args = slices.Concat(params.Args, result.Args)
	return result
}

func (r *reader) and(first api.Type) api.Type {
	return api.Type{Kind: api.TAnd, Args: r.list(first, " & ", ")")}
}

func (r *reader) or(first api.Type) api.Type {
	return api.Type{Kind: api.TOr, Args: r.list(first, " | ", ")")}
}

func (r *reader) repeated(first api.Type) api.Type {
	return api.Type{Kind: api.TRepeat, Args: []api.Type{first}}
}

func (r *reader) match(first api.Type) api.Type {
	t := api.Type{Kind: api.TMatch, Num: r.number(), Args: []api.Type{first}}
	for !r.failed && !r.has(")") {
		r.want(" {")
		pattern := r.read()
		r.want(" => ")
		body := r.closed(api.TNone, "}")
		t.Args = append(t.Args, pattern, body.Args[0])
	}
	return t
}

func (r *reader) refined(first api.Type) api.Type {
	t := api.Type{Kind: api.TRefine, Name: r.run(nameBytes), Args: []api.Type{first}}
	r.want(" >: ")
	t.Args = append(t.Args, r.read())
	r.want(" <: ")
	t.Args = append(t.Args, r.read())
	r.want(")")
	return t
}
