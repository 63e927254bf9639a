package symbols

import (
	"slices"

	"newel/api"
)

const anyClass = api.Abstract | api.Final | api.Sealed | api.Private | api.Case | api.Value | api.Synthetic

// classFlags are the flags that are permitted, by the kind of the class.
var classFlags = [api.ClassKinds]int{
	api.IsClass:  anyClass,
	api.IsTrait:  anyClass &^ (api.Final | api.Case | api.Value),
	api.IsObject: anyClass &^ (api.Abstract | api.Sealed | api.Value),
}

// class returns the fault of a class by rule 2.
func (t *tables) class(i int) api.Errno {
	c := &t.Classes[i]
	switch {
	case !IsName(c.Name):
		return api.ErrName
	case !isIndex(c.Kind, api.ClassKinds):
		return api.ErrKind
	case hasOthers(c.Flags, classFlags[c.Kind]) || has(c.Flags, api.Abstract|api.Final):
		return api.ErrInvalid
	case c.Owner == i || !t.isOwner(c.Owner) || !t.listsExist(c):
		return api.ErrRange
	case twice(c.TParams) || twice(c.Params) || twice(c.Fields) || twice(c.Methods) || twice(c.Types):
		return api.ErrTwice
	case len(c.TParams) > api.MaxArgs || len(c.Params) > api.MaxArgs:
		return api.ErrArity
	case c.Kind != api.IsClass && len(c.Params) > 0 || c.Kind == api.IsObject && len(c.TParams) > 0:
		return api.ErrArity
	case !t.ownsLists(i):
		return api.ErrInvalid
	case has(c.Flags, api.Value) && (len(c.Params) != 1 || len(c.Fields) != 1):
		return api.ErrInvalid
	}
	return api.OK
}

// listsExist reports whether the tables have all indices in the lists of a
// class.
func (t *tables) listsExist(c *api.Class) bool {
	return exist(c.TParams, len(t.TParams)) && exist(c.Params, len(t.Fields)) && exist(c.Fields, len(t.Fields)) &&
		exist(c.Methods, len(t.Methods)) && exist(c.Types, len(t.Types))
}

// ownsLists reports whether what is in the lists of a class belongs to it, and
// its parameters to its fields.
func (t *tables) ownsLists(class int) bool {
	c := &t.Classes[class]
	fields := set(c.Fields)
	return !slices.ContainsFunc(c.TParams, func(i int) bool { return t.TParams[i].Class != class || t.TParams[i].Method != -1 }) &&
		!slices.ContainsFunc(c.Params, func(i int) bool { return !fields[i] }) &&
		!slices.ContainsFunc(c.Fields, func(i int) bool { return t.Fields[i].Owner != class }) &&
		!slices.ContainsFunc(c.Methods, func(i int) bool { return t.Methods[i].Owner != class }) &&
		!slices.ContainsFunc(c.Types, func(i int) bool { return t.Types[i].Owner != class })
}

// nesting returns the fault of a class by rule 3.
func (t *tables) nesting(i int) api.Errno {
	if Inside(t.Program, i, i) {
		return api.ErrCycle
	}
	return api.OK
}

// parents returns the fault of the parents of a class, by rule 4.
func (t *tables) parents(i int) api.Errno {
	c := &t.Classes[i]
	if len(c.Parents) == 0 {
		return api.ErrEmpty
	}
	if len(c.Parents) > api.MaxArgs {
		return api.ErrLimit
	}
	earlier := map[int]bool{}
	for k := range c.Parents {
		if k == 0 && c.Parents[k].Kind == api.TAny {
			continue
		}
		if code := t.parent(c, k, earlier); code != api.OK {
			return code
		}
		earlier[c.Parents[k].Sym] = true
	}
	return api.OK
}

// parent returns the fault of a parent of a class, behind parents of earlier
// classes.
func (t *tables) parent(c *api.Class, k int, earlier map[int]bool) api.Errno {
	of := &c.Parents[k]
	if of.Kind != api.TClass {
		return api.ErrKind
	}
	if !isIndex(of.Sym, len(t.Classes)) {
		return api.ErrRange
	}
	parent := &t.Classes[of.Sym]
	wanted := api.IsTrait
	if k == 0 {
		wanted = api.IsClass
	}
	switch {
	case parent.Kind != wanted || k == 0 && c.Kind == api.IsTrait:
		return api.ErrKind
	case has(parent.Flags, api.Final):
		return api.ErrFinal
	case len(parent.TParams) != len(of.Args):
		return api.ErrArity
	case earlier[of.Sym]:
		return api.ErrTwice
	case has(c.Flags, api.Case) && has(parent.Flags, api.Case):
		return api.ErrInvalid
	case has(c.Flags, api.Value) && k == 0:
		return api.ErrInvalid
	}
	return api.OK
}

// ancestry returns the fault of the ancestors of a class, by rule 5.
func (t *tables) ancestry(i int) api.Errno {
	ancestors := Ancestors(t.Program, i)
	if slices.Contains(ancestors, i) {
		return api.ErrCycle
	}
	isCase := func(class int) bool { return has(t.Classes[class].Flags, api.Case) }
	if isCase(i) && slices.ContainsFunc(ancestors, isCase) {
		return api.ErrInvalid
	}
	return api.OK
}

// classOnce returns the fault of a class by rule 8.
func (t *tables) classOnce(i int) api.Errno {
	c := &t.Classes[i]
	return t.once(place{part: PClass, class: c.Owner, name: c.Name, object: c.Kind == api.IsObject})
}

// once tells that a name was not seen before at a place.
func (t *tables) once(name place) api.Errno {
	if t.seen[name] {
		return api.ErrTwice
	}
	t.seen[name] = true
	return api.OK
}
