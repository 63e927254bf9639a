package types

import (
	"strconv"
	"strings"

	"newel/api"
	"newel/symbols"
)

// words are the texts of the kinds that are a word alone.
var words = [...]string{
	api.TAny:     "Any",
	api.TNothing: "Nothing",
	api.TNull:    "Null",
	api.TUnit:    "Unit",
	api.TBoolean: "Boolean",
	api.TChar:    "Char",
	api.TInt:     "Int",
	api.TLong:    "Long",
	api.TString:  "String",
}

// Text returns the text of a type.
func Text(env api.Env, t api.Type) (string, api.Errno) {
	if e := Check(env, t); e != api.OK {
		return "", e
	}
	w := writer{env: env}
	w.put(t)
	switch {
	case w.fault != api.OK:
		return "", w.fault
	case w.Len() > api.MaxText:
		return "", api.ErrLimit
	}
	return w.String(), api.OK
}

// writer writes types that Check accepts, and knows the first fault of the
// names of classes.
type writer struct {
	strings.Builder
	env   api.Env
	fault api.Errno
}

// class is a class whose full name is written.
type class int

// list is a list of types that are written with a text between.
type list struct {
	types   []api.Type
	between string
}

// put writes texts, numbers, names of classes, types and lists.
func (w *writer) put(parts ...any) {
	for _, part := range parts {
		switch part := part.(type) {
		case string:
			w.text(part)
		case int:
			w.text(strconv.Itoa(part))
		case class:
			w.class(int(part))
		case list:
			w.list(part)
		case api.Type:
			w.write(&part)
		}
	}
}

// text writes a text. What exceeds the limit is left out: the names may be much
// longer.
func (w *writer) text(s string) {
	if w.Len() <= api.MaxText {
		w.WriteString(s)
	}
}

func (w *writer) class(index int) {
	name, e := symbols.FullName(w.env.P, index)
	if w.fault == api.OK {
		w.fault = e
	}
	w.text(name)
}

func (w *writer) list(l list) {
	for i, t := range l.types {
		if i > 0 {
			w.text(l.between)
		}
		w.write(&t)
	}
}

// write writes a type.
func (w *writer) write(t *api.Type) {
	if t.Kind < len(words) {
		w.text(words[t.Kind])
		return
	}
	if isNamed(t) {
		w.named(t)
		return
	}
	last := len(t.Args) - 1
	switch t.Kind {
	case api.TClass:
		w.put(class(t.Sym), "[", list{t.Args, ", "}, "]")
	case api.TThis:
		w.put("this(", class(t.Sym), ")")
	case api.TAnd:
		w.put("(", list{t.Args, " & "}, ")")
	case api.TOr:
		w.put("(", list{t.Args, " | "}, ")")
	case api.TFun:
		w.put("((", list{t.Args[:last], ", "}, ") => ", t.Args[last], ")")
	case api.TArray:
		w.put("Array(", t.Args[0], ")")
	case api.TByName:
		w.put("(=> ", t.Args[0], ")")
	case api.TRepeat:
		w.put("(", t.Args[0], " *)")
	case api.TLambda:
		w.put("{", t.Num, " => ", t.Args[0], "}")
	case api.TBound:
		w.put("#", t.Num, "^", t.Sym)
	case api.TApply:
		w.put(t.Args[0], "(", list{t.Args[1:], ", "}, ")")
	case api.TMatch:
		w.match(t)
	case api.TRefine:
		w.put("(", t.Args[0], " with ", t.Name, " >: ", t.Args[1], " <: ", t.Args[2], ")")
	case api.TWild:
		w.put("(? >: ", t.Args[0], " <: ", t.Args[1], ")")
	case api.TVar:
		w.put("?", t.Num)
	}
}

// isNamed reports whether a type is written with the name of a symbol that is no
// class.
func isNamed(t *api.Type) bool {
	return t.Kind == api.TParam || t.Kind == api.TMember || t.Kind == api.TLocal || t.Kind == api.TField
}

// named writes a type with the name of its symbol.
func (w *writer) named(t *api.Type) {
	switch t.Kind {
	case api.TParam:
		w.put(w.env.P.TParams[t.Sym].Name, "'", t.Sym)
	case api.TMember:
		w.put(t.Args[0], ".", w.env.P.Types[t.Sym].Name, "'", t.Sym)
	case api.TLocal:
		w.put(w.env.Locals[t.Sym].Name, "@", t.Sym)
	case api.TField:
		w.put(t.Args[0], ".", w.env.P.Fields[t.Sym].Name, "@", t.Sym)
	}
}

// match writes a TMatch.
func (w *writer) match(t *api.Type) {
	w.put("(", t.Args[0], " match ", t.Num)
	for i := 1; i < len(t.Args); i += 2 {
		w.put(" {", t.Args[i], " => ", t.Args[i+1], "}")
	}
	w.put(")")
}
