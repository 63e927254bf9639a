package types

import (
	"slices"

	"newel/api"
)

// maxSteps is how many steps the normal form of a type may take.
const maxSteps = 1000

// normalizer makes normal forms, and counts the steps: the type functions that
// were applied, and the TAnds that were made of one with a TOr.
type normalizer struct{ steps int }

// Normal returns the normal form of a type.
func Normal(t api.Type) (api.Type, api.Errno) {
	if e := limits(&t); e != api.OK {
		return api.Type{}, e
	}
	var n normalizer
	out, e := n.normal(t)
	if e != api.OK {
		return api.Type{}, e
	}
	return out, api.OK
}

// step counts a step.
func (n *normalizer) step() api.Errno {
	n.steps++
	if n.steps > maxSteps {
		return api.ErrFuel
	}
	return api.OK
}

// normal returns the normal form of a type that keeps the limits.
func (n *normalizer) normal(t api.Type) (api.Type, api.Errno) {
	before := n.steps
	args := t.Args
	t.Args = nil
	for i := range args {
		arg, e := n.normal(args[i])
		if e != api.OK {
			return api.Type{}, e
		}
		t.Args = append(t.Args, arg)
	}
	out, e := n.apply(t)
	if e != api.OK {
		return api.Type{}, e
	}
	// Without a step a normal form is no greater than the type.
	if n.steps > before {
		e = limits(&out)
	}
	return out, e
}

// apply applies the rule for a node whose Args are in normal form.
func (n *normalizer) apply(t api.Type) (api.Type, api.Errno) {
	if !isKind(t.Kind) || !forms[t.Kind].permits(len(t.Args)) {
		return t, api.OK
	}
	switch t.Kind {
	case api.TApply:
		return n.function(t)
	case api.TAnd:
		return n.intersection(t.Args)
	case api.TOr:
		return union(t.Args), api.OK
	case api.TWild:
		if Equal(t.Args[0], t.Args[1]) {
			return t.Args[0], api.OK
		}
	}
	return t, api.OK
}

// function applies rule 1 to a TApply.
func (n *normalizer) function(t api.Type) (api.Type, api.Errno) {
	f := &t.Args[0]
	if f.Kind != api.TLambda || len(f.Args) != 1 || f.Num != len(t.Args)-1 {
		return t, api.OK
	}
	if e := n.step(); e != api.OK {
		return api.Type{}, e
	}
	body, e := Open(*f, t.Args[1:])
	if e != api.OK {
		return api.Type{}, e
	}
	return n.normal(body)
}

// intersection applies rule 2 to the Args of a TAnd.
func (n *normalizer) intersection(args []api.Type) (api.Type, api.Errno) {
	args = flat(args, api.TAnd)
	if i := indexOf(args, api.TOr); i >= 0 {
		return n.distribute(args, i)
	}
	if isEmpty(args) {
		return api.Type{Kind: api.TNothing}, api.OK
	}
	if isNull(args) {
		args = slices.DeleteFunc(args, func(t api.Type) bool { return t.Kind == api.TNull || isReference(&t) })
		args = append(args, api.Type{Kind: api.TNull})
	}
	return joined(api.TAnd, unique(args, api.TAny), api.TAny), api.OK
}

// distribute makes the TOr of the TAnds with one of the Args of a TOr in its
// place.
func (n *normalizer) distribute(args []api.Type, or int) (api.Type, api.Errno) {
	var made []api.Type
	for _, one := range args[or].Args {
		if e := n.step(); e != api.OK {
			return api.Type{}, e
		}
		var with []api.Type
		for i, arg := range args {
			if i == or {
				arg = one
			}
			with = append(with, copied(arg))
		}
		and, e := n.intersection(with)
		if e == api.OK {
			e = limits(&and)
		}
		if e != api.OK {
			return api.Type{}, e
		}
		made = append(made, and)
	}
	return union(made), api.OK
}

// isEmpty reports whether types have no common value.
func isEmpty(l []api.Type) bool {
	for i := range l {
		if l[i].Kind == api.TNothing {
			return true
		}
		if groupKind(&l[i]) == valueGroup && slices.ContainsFunc(l, func(t api.Type) bool { return excludes(&l[i], &t) }) {
			return true
		}
	}
	return false
}

// excludes reports whether a type of a group that is no reference group has no
// value of another type.
func excludes(value, t *api.Type) bool {
	return t.Kind == api.TNull || groupKind(t) != noGroup && t.Kind != value.Kind
}

// isNull reports whether null is the only common value of the types among some
// that are TNull or of reference groups.
func isNull(l []api.Type) bool {
	i := slices.IndexFunc(l, func(t api.Type) bool { return isReference(&t) })
	return slices.ContainsFunc(l, func(t api.Type) bool {
		return t.Kind == api.TNull || isReference(&t) && t.Kind != l[i].Kind
	})
}

// union applies rule 3 to the Args of a TOr.
func union(args []api.Type) api.Type {
	args = flat(args, api.TOr)
	if indexOf(args, api.TAny) >= 0 {
		return api.Type{Kind: api.TAny}
	}
	args = unique(args, api.TNothing)
	var kept []api.Type
	for i := range args {
		if !isAbsorbed(args, i) {
			kept = append(kept, args[i])
		}
	}
	return joined(api.TOr, kept, api.TNothing)
}

// isAbsorbed reports whether another one of some types absorbs the one with an
// index.
func isAbsorbed(l []api.Type, index int) bool {
	for i := range l {
		if i != index && absorbs(parts(l, i), parts(l, index)) {
			return true
		}
	}
	return false
}

// absorbs reports whether the type with some parts absorbs the one with others.
func absorbs(l, others []api.Type) bool {
	hasNull := indexOf(others, api.TNull) >= 0
	return !slices.ContainsFunc(l, func(part api.Type) bool {
		return !(hasNull && isReference(&part)) && !slices.ContainsFunc(others, func(t api.Type) bool { return Equal(t, part) })
	})
}

// parts returns the Args of a TAnd in a list, of any other type there itself.
func parts(l []api.Type, index int) []api.Type {
	if l[index].Kind == api.TAnd {
		return l[index].Args
	}
	return l[index : index+1]
}

// flat returns a list with the Args of types of a kind in their place.
func flat(l []api.Type, kind int) []api.Type {
	var out []api.Type
	for _, t := range l {
		if t.Kind == kind {
			out = append(out, flat(t.Args, kind)...)
		} else {
			out = append(out, t)
		}
	}
	return out
}

// indexOf returns the index of the first type of a kind, -1 if there is none.
func indexOf(l []api.Type, kind int) int {
	return slices.IndexFunc(l, func(t api.Type) bool { return t.Kind == kind })
}

// unique returns the types that are not of a kind, each once, in increasing
// order.
func unique(l []api.Type, but int) []api.Type {
	l = slices.DeleteFunc(slices.Clone(l), func(t api.Type) bool { return t.Kind == but })
	slices.SortFunc(l, Compare)
	return slices.CompactFunc(l, Equal)
}

// joined returns the TAnd or TOr of some types. One alone stands for itself; if
// there is none, it is the neutral one.
func joined(kind int, l []api.Type, neutral int) api.Type {
	switch len(l) {
	case 0:
		return api.Type{Kind: neutral}
	case 1:
		return l[0]
	}
	return api.Type{Kind: kind, Args: l}
}
