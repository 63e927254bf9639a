package types

import "newel/api"

// maxAlternatives is the greatest number of Args of a TAnd and a TOr.
const maxAlternatives = 20

// maxCases is the greatest number of cases of a TMatch.
const maxCases = 20

// anyNumber stands for no limit.
const anyNumber = MaxSize

// form is what nodes of a kind are like: the fields that they use, and from how
// many to how many Args they have.
type form struct {
	sym, name, num bool
	least, most    int
	odd            bool // an odd number of Args
}

// forms are the forms of all kinds.
var forms = [api.TKinds]form{
	api.TClass:  {sym: true, most: anyNumber},
	api.TParam:  {sym: true},
	api.TMember: {sym: true, least: 1, most: 1},
	api.TThis:   {sym: true},
	api.TLocal:  {sym: true},
	api.TField:  {sym: true, least: 1, most: 1},
	api.TAnd:    {least: 2, most: maxAlternatives},
	api.TOr:     {least: 2, most: maxAlternatives},
	api.TFun:    {least: 1, most: api.MaxArgs + 1},
	api.TArray:  {least: 1, most: 1},
	api.TByName: {least: 1, most: 1},
	api.TRepeat: {least: 1, most: 1},
	api.TLambda: {num: true, least: 1, most: 1},
	api.TBound:  {sym: true, num: true},
	api.TApply:  {least: 2, most: api.MaxArgs + 1},
	api.TMatch:  {num: true, least: 3, most: 2*maxCases + 1, odd: true},
	api.TRefine: {name: true, least: 3, most: 3},
	api.TWild:   {least: 2, most: 2},
	api.TVar:    {num: true},
}

// isKind reports whether there is a kind of types.
func isKind(kind int) bool {
	return kind >= api.TAny && kind < api.TKinds
}

// hasForm reports whether a node of one of the kinds uses no other fields, and
// has a number of Args that is permitted.
func hasForm(t *api.Type) bool {
	f := forms[t.Kind]
	return (f.sym || t.Sym == 0) && (f.name || t.Name == "") && (f.num || t.Num == 0) && f.permits(len(t.Args))
}

// permits reports whether a number of Args is permitted.
func (f form) permits(args int) bool {
	return args >= f.least && args <= f.most && !(f.odd && args%2 == 0)
}

// A group is a set of types without common values but null with those of other
// groups; noGroup stands for the types that belong to none.
const (
	noGroup = iota
	valueGroup
	referenceGroup
)

// groups tell of which sort the group of a kind is: each kind is one of its own.
var groups = [api.TKinds]int{
	api.TUnit:    valueGroup,
	api.TBoolean: valueGroup,
	api.TChar:    valueGroup,
	api.TInt:     valueGroup,
	api.TLong:    valueGroup,
	api.TString:  referenceGroup,
	api.TClass:   referenceGroup,
	api.TArray:   referenceGroup,
	api.TFun:     referenceGroup,
}

// groupKind returns of which sort the group of a type is.
func groupKind(t *api.Type) int {
	if !isKind(t.Kind) {
		return noGroup
	}
	return groups[t.Kind]
}

// isReference reports whether a type is of a reference group.
func isReference(t *api.Type) bool {
	return groupKind(t) == referenceGroup
}
