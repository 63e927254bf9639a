package symbols

import (
	"slices"

	"newel/api"
)

// tables are the tables of a program that is checked, with the names that have
// been seen.
type tables struct {
	api.Program
	seen map[place]bool
}

// place is a name where it may stand once: in a part, of an owner.
type place struct {
	part, class, method int
	name                string
	object              bool
}

// rule is a rule for all items of a part; its check returns the code of the
// first fault of an item.
type rule struct {
	part  int
	check func(t *tables, index int) api.Errno
}

// rules returns the rules 2 to 8 in their order. A rule counts on those in
// front of it: indices that one of them has looked at exist.
func rules() []rule {
	return []rule{
		{PClass, (*tables).class},
		{PClass, (*tables).nesting},
		{PClass, (*tables).parents},
		{PClass, (*tables).ancestry},
		{PMethod, (*tables).method},
		{PField, (*tables).field},
		{PTParam, (*tables).typeParam},
		{PTypeMember, (*tables).typeMember},
		{PClass, (*tables).classOnce},
		{PField, (*tables).fieldOnce},
		{PMethod, (*tables).methodOnce},
		{PTypeMember, (*tables).typeMemberOnce},
		{PTParam, (*tables).typeParamOnce},
	}
}

// Check returns the first fault of a program.
func Check(p api.Program) Fault {
	sizes := [...]int{PClass: len(p.Classes), PMethod: len(p.Methods), PField: len(p.Fields), PTParam: len(p.TParams), PTypeMember: len(p.Types)}
	if slices.Max(sizes[:]) > api.MaxTable {
		return Fault{Code: api.ErrLimit}
	}
	t := tables{Program: p, seen: map[place]bool{}}
	for _, r := range rules() {
		for i := range sizes[r.part] {
			if code := r.check(&t, i); code != api.OK {
				return Fault{Part: r.part, Index: i, Code: code}
			}
		}
	}
	if code := t.main(); code != api.OK {
		return Fault{Part: PMain, Index: p.Main, Code: code}
	}
	return Fault{}
}

// main returns the fault of the main method.
func (t *tables) main() api.Errno {
	if t.Main == -1 {
		return api.OK
	}
	if !isIndex(t.Main, len(t.Methods)) {
		return api.ErrRange
	}
	m := &t.Methods[t.Main]
	if m.Params > 0 || len(m.TParams) > 0 || has(m.Flags, api.Abstract) {
		return api.ErrInvalid
	}
	if m.Owner == -1 || t.Classes[m.Owner].Kind == api.IsObject && t.Classes[m.Owner].Owner == -1 {
		return api.OK
	}
	return api.ErrInvalid
}

// isOwner reports whether an owner is -1 or a class.
func (t *tables) isOwner(owner int) bool {
	return owner == -1 || isIndex(owner, len(t.Classes))
}

// has reports whether a number has all of some flags.
func has(number, flags int) bool {
	return number&flags == flags
}

// hasOthers reports whether a number has other flags than those permitted.
func hasOthers(number, permitted int) bool {
	return number&^permitted != 0
}

// exist reports whether a table of a length has all indices of a list.
func exist(list []int, length int) bool {
	return !slices.ContainsFunc(list, func(i int) bool { return !isIndex(i, length) })
}

// set returns the set of the elements of a list.
func set[E comparable](list []E) map[E]bool {
	elements := map[E]bool{}
	for _, e := range list {
		elements[e] = true
	}
	return elements
}

// twice reports whether an element stands twice in a list.
func twice[E comparable](list []E) bool {
	return len(set(list)) < len(list)
}
