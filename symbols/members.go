package symbols

import (
	"slices"

	"newel/api"
)

// The flags that are permitted.
const (
	methodFlags = api.Abstract | api.Final | api.Private | api.Override | api.Given | api.Inline | api.Extension | api.Synthetic
	fieldFlags  = api.Final | api.Private | api.Override | api.Var | api.Lazy | api.Volatile | api.Given | api.Synthetic
	localFlags  = api.Var | api.Lazy | api.Given | api.Using | api.Synthetic
	paramFlags  = api.Using | api.Synthetic
)

// method returns the fault of a method by rule 6.
func (t *tables) method(i int) api.Errno {
	m := &t.Methods[i]
	switch {
	case !IsName(m.Name):
		return api.ErrName
	case hasWrongFlags(m):
		return api.ErrInvalid
	case !t.isOwner(m.Owner) || !exist(m.TParams, len(t.TParams)):
		return api.ErrRange
	case twice(m.TParams):
		return api.ErrTwice
	case len(m.TParams) > api.MaxArgs || m.Params < 0 || m.Params > min(api.MaxArgs, len(m.Locals)):
		return api.ErrArity
	case len(m.Locals) > api.MaxLocals:
		return api.ErrLimit
	}
	if code := locals(m); code != api.OK {
		return code
	}
	return t.withOwner(i)
}

// hasWrongFlags reports whether a method has flags that do not belong together,
// or to its body.
func hasWrongFlags(m *api.Method) bool {
	isAbstract := has(m.Flags, api.Abstract)
	return hasOthers(m.Flags, methodFlags) || isAbstract != (m.Body == nil) ||
		isAbstract && m.Flags&(api.Final|api.Private|api.Inline) != 0
}

// locals returns the fault of the locals of a method.
func locals(m *api.Method) api.Errno {
	var params []string
	for k := range m.Locals {
		l := &m.Locals[k]
		permitted := localFlags
		if k < m.Params {
			permitted = paramFlags
			params = append(params, l.Name)
		}
		if !IsName(l.Name) {
			return api.ErrName
		}
		if hasOthers(l.Flags, permitted) || has(l.Flags, api.Lazy|api.Var) {
			return api.ErrInvalid
		}
	}
	if twice(params) {
		return api.ErrTwice
	}
	return api.OK
}

// withOwner returns the fault of a method together with its type parameters and
// its owner.
func (t *tables) withOwner(i int) api.Errno {
	m := &t.Methods[i]
	if slices.ContainsFunc(m.TParams, func(k int) bool { return t.TParams[k].Method != i || t.TParams[k].Class != -1 }) {
		return api.ErrInvalid
	}
	isFunction := m.Owner == -1
	switch {
	case !isFunction && !slices.Contains(t.Classes[m.Owner].Methods, i):
		return api.ErrNoEntry
	case has(m.Flags, api.Abstract) && (isFunction || !mayBeAbstract(&t.Classes[m.Owner])):
		return api.ErrAbstract
	case has(m.Flags, api.Override) && isFunction:
		return api.ErrInvalid
	}
	return api.OK
}

// mayBeAbstract reports whether a class may have abstract methods.
func mayBeAbstract(c *api.Class) bool {
	return c.Kind == api.IsTrait || has(c.Flags, api.Abstract)
}

// field returns the fault of a field by rule 7.
func (t *tables) field(i int) api.Errno {
	f := &t.Fields[i]
	switch {
	case !IsName(f.Name):
		return api.ErrName
	case hasOthers(f.Flags, fieldFlags) || has(f.Flags, api.Lazy|api.Var) || has(f.Flags, api.Volatile) && !has(f.Flags, api.Var):
		return api.ErrInvalid
	case !isIndex(f.Owner, len(t.Classes)):
		return api.ErrRange
	case !slices.Contains(t.Classes[f.Owner].Fields, i):
		return api.ErrNoEntry
	case has(f.Flags, api.Lazy) && slices.Contains(t.Classes[f.Owner].Params, i):
		return api.ErrInvalid
	}
	return api.OK
}

// typeParam returns the fault of a type parameter by rule 7.
func (t *tables) typeParam(i int) api.Errno {
	p := &t.TParams[i]
	ofClass := isIndex(p.Class, len(t.Classes)) && p.Method == -1
	ofMethod := isIndex(p.Method, len(t.Methods)) && p.Class == -1
	switch {
	case !IsName(p.Name):
		return api.ErrName
	case p.Variance < api.Contravariant || p.Variance > api.Covariant || !isArity(p.Arity):
		return api.ErrRange
	case !ofClass && !ofMethod:
		return api.ErrRange
	case ofClass && !slices.Contains(t.Classes[p.Class].TParams, i) || ofMethod && !slices.Contains(t.Methods[p.Method].TParams, i):
		return api.ErrNoEntry
	case ofMethod && p.Variance != api.Invariant:
		return api.ErrVariance
	}
	return api.OK
}

// typeMember returns the fault of a type member by rule 7.
func (t *tables) typeMember(i int) api.Errno {
	m := &t.Types[i]
	switch {
	case !IsName(m.Name):
		return api.ErrName
	case !isIndex(m.Owner, len(t.Classes)) || !isArity(m.Arity):
		return api.ErrRange
	case !slices.Contains(t.Classes[m.Owner].Types, i):
		return api.ErrNoEntry
	}
	return api.OK
}

// isArity reports whether a number can be that of the parameters of a type.
func isArity(n int) bool {
	return n >= 0 && n <= api.MaxArgs
}

// fieldOnce returns the fault of a field by rule 8.
func (t *tables) fieldOnce(i int) api.Errno {
	return t.once(t.fieldPlace(t.Fields[i].Owner, t.Fields[i].Name))
}

// methodOnce returns the fault of a method by rule 8, when the names of all
// fields have been seen.
func (t *tables) methodOnce(i int) api.Errno {
	if t.seen[t.fieldPlace(t.Methods[i].Owner, t.Methods[i].Name)] {
		return api.ErrTwice
	}
	return api.OK
}

func (t *tables) fieldPlace(owner int, name string) place {
	return place{part: PField, class: owner, name: name}
}

// typeMemberOnce returns the fault of a type member by rule 8.
func (t *tables) typeMemberOnce(i int) api.Errno {
	return t.once(place{part: PTypeMember, class: t.Types[i].Owner, name: t.Types[i].Name})
}

// typeParamOnce returns the fault of a type parameter by rule 8.
func (t *tables) typeParamOnce(i int) api.Errno {
	p := &t.TParams[i]
	return t.once(place{part: PTParam, class: p.Class, method: p.Method, name: p.Name})
}
