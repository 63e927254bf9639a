package types_test

import (
	"math/rand"
	"slices"
	"testing"

	"newel/api"
	"newel/types"
)

// The oracle of Normal takes a type as a set of sets of parts: the sets are the
// TAnds of one TOr.

// set is a set of types by their texts.
type set map[string]api.Type

func normalOf(t api.Type) api.Type {
	args := t.Args
	t.Args = nil
	for _, a := range args {
		t.Args = append(t.Args, normalOf(a))
	}
	switch {
	case t.Kind == api.TAnd || t.Kind == api.TOr:
		return unionOf(reduced(setsOf(t)))
	case t.Kind == api.TWild && same(t.Args[0], t.Args[1]):
		return t.Args[0]
	case t.Kind == api.TApply && t.Args[0].Kind == api.TLambda && t.Args[0].Num == len(t.Args)-1:
		var n namer
		f := n.name(t.Args[0], nil)
		return normalOf(numbered(n.open(f, 0, t.Args[1:]), nil))
	}
	return t
}

// setsOf returns the sets of parts of a type.
func setsOf(t api.Type) []set {
	switch t.Kind {
	case api.TOr:
		var l []set
		for _, a := range t.Args {
			l = append(l, setsOf(a)...)
		}
		return l
	case api.TAnd:
		l := []set{{}}
		for _, a := range t.Args {
			var next []set
			for _, left := range l {
				for _, right := range setsOf(a) {
					both := set{}
					for _, s := range []set{left, right} {
						for k, v := range s {
							both[k] = v
						}
					}
					next = append(next, both)
				}
			}
			l = next
		}
		return l
	}
	return []set{{show(t): t}}
}

var valueKinds = []int{api.TUnit, api.TBoolean, api.TChar, api.TInt, api.TLong}
var referenceKinds = []int{api.TString, api.TClass, api.TArray, api.TFun}

// reduced returns sets without those that have no value; null stands for what
// has no other one.
func reduced(l []set) []set {
	var out []set
	for _, s := range l {
		kinds := map[int]bool{}
		values, references := 0, 0
		for _, t := range s {
			if slices.Contains(valueKinds, t.Kind) && !kinds[t.Kind] {
				values++
			}
			if slices.Contains(referenceKinds, t.Kind) && !kinds[t.Kind] {
				references++
			}
			kinds[t.Kind] = true
		}
		delete(s, show(anyType))
		if kinds[api.TNothing] || values > 1 || values == 1 && (references > 0 || kinds[api.TNull]) {
			continue
		}
		if kinds[api.TNull] || references > 1 {
			s[show(null)] = null
			for k, t := range s {
				if slices.Contains(referenceKinds, t.Kind) {
					delete(s, k)
				}
			}
		}
		out = append(out, s)
	}
	return out
}

// unionOf returns the type of sets, without those that another one absorbs.
func unionOf(l []set) api.Type {
	var kept []set
	for i, s := range l {
		absorbed := false
		for k, other := range l {
			equal := includes(s, other) && includes(other, s)
			absorbed = absorbed || k != i && includes(s, other) && (!equal || k < i)
		}
		if !absorbed {
			kept = append(kept, s)
		}
	}
	var out []api.Type
	for _, s := range kept {
		out = append(out, one(api.TAnd, anyType, typesOf(s)))
	}
	return one(api.TOr, nothing, out)
}

// includes reports whether each part of the second set is one of the first, or
// of a reference kind while null is.
func includes(s, parts set) bool {
	_, hasNull := s[show(null)]
	for k, t := range parts {
		if _, has := s[k]; !has && !(hasNull && slices.Contains(referenceKinds, t.Kind)) {
			return false
		}
	}
	return true
}

func typesOf(s set) []api.Type {
	var l []api.Type
	for _, t := range s {
		l = append(l, t)
	}
	return l
}

func one(kind int, empty api.Type, l []api.Type) api.Type {
	slices.SortFunc(l, func(a, b api.Type) int { return slices.Compare(flatten(a), flatten(b)) })
	switch len(l) {
	case 0:
		return empty
	case 1:
		return l[0]
	}
	return of(kind, l...)
}

// mixed returns a random type of many TAnds and TOrs of few types.
func mixed(r *rand.Rand, depth int) api.Type {
	leaves := []api.Type{
		anyType, nothing, null, null, unit, integer, text, class(0), class(1, integer), class(3), array(integer), array(text), fun(unit), fun(integer, unit), param(0), param(1), param(4), this(0),
	}
	if depth == 0 || r.Intn(6) == 0 {
		return leaves[r.Intn(len(leaves))]
	}
	var l []api.Type
	for range 2 + r.Intn(2) {
		l = append(l, mixed(r, depth-1))
	}
	switch r.Intn(9) {
	case 0:
		return array(l[0])
	case 1:
		return class(1, wild(l[0], l[1]))
	case 2, 3, 4:
		return and(l...)
	}
	return or(l...)
}

// P7.3: Normal of random types is what sets of parts make of them.
func TestNormalRandom(t *testing.T) {
	compared := 0
	for seed := range int64(8000) {
		r := rand.New(rand.NewSource(seed))
		u := mixed(r, 1+r.Intn(4))
		if seed%4 == 0 {
			p := rightProgram(r)
			u = everything(r, randomEnv(r, p)).proper(3, nil)
		}
		if len(setsOf(u)) > 300 || hasMany(u) {
			continue
		}
		got, e := types.Normal(u)
		if e == api.ErrFuel || e == api.ErrLimit || e == api.ErrDepth {
			continue
		}
		compared++
		if want := normalOf(u); e != api.OK || !same(got, want) {
			t.Fatalf("seed %d: %s: %s, %v, want %s", seed, show(u), show(got), e, show(want))
		}
	}
	if compared < 7000 {
		t.Errorf("only %d types", compared)
	}
}

// hasMany reports whether a part of a type has too many sets for the oracle.
func hasMany(t api.Type) bool {
	return len(t.Args) > 0 && slices.ContainsFunc(t.Args, func(a api.Type) bool { return len(setsOf(a)) > 300 || hasMany(a) })
}

// P7.5: the order and repetition of what stands in TAnds and TOrs does not
// matter, for basic types, classes, arrays, functions, TAnds and TOrs.
func TestNormalShuffled(t *testing.T) {
	for seed := range int64(3000) {
		r := rand.New(rand.NewSource(seed))
		u := mixed(r, 1+r.Intn(3))
		a, e := types.Normal(u)
		b, e2 := types.Normal(shuffled(r, u))
		if e == api.OK && e2 == api.OK && !same(a, b) {
			t.Fatalf("seed %d: %s: %s, %s", seed, show(u), show(a), show(b))
		}
	}
}

func shuffled(r *rand.Rand, t api.Type) api.Type {
	args := t.Args
	t.Args = nil
	for _, a := range args {
		t.Args = append(t.Args, shuffled(r, a))
	}
	if t.Kind == api.TAnd || t.Kind == api.TOr {
		for r.Intn(3) == 0 {
			t.Args = append(t.Args, t.Args[r.Intn(len(t.Args))])
		}
		r.Shuffle(len(t.Args), func(i, k int) { t.Args[i], t.Args[k] = t.Args[k], t.Args[i] })
	}
	return t
}

// P7.3: Normal keeps the values of a type: those of a small universe, in which
// each type without parts has random ones of those that it may have.
func TestNormalValues(t *testing.T) {
	for seed := range int64(6000) {
		r := rand.New(rand.NewSource(seed))
		u := mixed(r, 1+r.Intn(4))
		got, e := types.Normal(u)
		if e != api.OK {
			continue
		}
		v := valuation{r: r, known: map[string]uint64{}}
		if a, b := v.of(u), v.of(got); a != b {
			t.Fatalf("seed %d: %s: %s has other values", seed, show(u), show(got))
		}
	}
}

// valuation gives types values, as bits: null, and six of each group.
type valuation struct {
	r     *rand.Rand
	known map[string]uint64
}

func (v *valuation) of(t api.Type) uint64 {
	const all = 1<<55 - 1
	groups := map[int]int{api.TUnit: 0, api.TBoolean: 1, api.TChar: 2, api.TInt: 3, api.TLong: 4, api.TString: 5, api.TClass: 6, api.TArray: 7, api.TFun: 8}
	out := uint64(0)
	switch t.Kind {
	case api.TAny:
		return all
	case api.TNothing:
		return 0
	case api.TNull:
		return 1
	case api.TAnd:
		out = all
		for _, a := range t.Args {
			out &= v.of(a)
		}
		return out
	case api.TOr:
		for _, a := range t.Args {
			out |= v.of(a)
		}
		return out
	}
	group, isGroup := groups[t.Kind]
	key := show(normalOf(t))
	if _, known := v.known[key]; !known {
		v.known[key] = v.r.Uint64() & all
	}
	if !isGroup {
		return v.known[key]
	}
	six := uint64(63) << (1 + 6*group)
	if t.Kind == api.TClass || t.Kind == api.TArray || t.Kind == api.TFun {
		return v.known[key]&six | 1
	}
	if t.Kind == api.TString {
		return six | 1
	}
	return six
}
