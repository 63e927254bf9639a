package types_test

import (
	"strings"

	"newel/api"
)

// The oracle of Check goes through the nodes by itself, and keeps the numbers of
// the variables of the binders around a node in a list.

// spot is where a node stands.
type spot struct {
	binders []int // of the binders around it, the innermost one last
	above   *api.Type
	index   int
	depth   int
}

// oracle collects what it sees of a type.
type oracle struct {
	env   api.Env
	size  int
	deep  bool
	first api.Errno
}

func firstError(env api.Env, t api.Type) api.Errno {
	o := oracle{env: env}
	o.see(&t, spot{depth: 1})
	switch {
	case o.size > 2000:
		return api.ErrLimit
	case o.deep:
		return api.ErrDepth
	}
	return o.first
}

func (o *oracle) see(t *api.Type, s spot) {
	o.size++
	if o.size > 2000 {
		return
	}
	o.deep = o.deep || s.depth > 64
	if o.first == api.OK {
		o.first = o.errorOf(t, s)
	}
	for i := range t.Args {
		inner := spot{binders: append([]int(nil), s.binders...), above: t, index: i, depth: s.depth + 1}
		if t.Kind == api.TLambda && i == 0 || t.Kind == api.TMatch && i >= 1 {
			inner.binders = append(inner.binders, t.Num)
		}
		o.see(&t.Args[i], inner)
	}
}

func (o *oracle) errorOf(t *api.Type, s spot) api.Errno {
	switch {
	case t.Kind <= 0 || t.Kind > api.TVar:
		return api.ErrKind
	case !oracleForm(t):
		return api.ErrForm
	case !o.found(t, s):
		return api.ErrRange
	case !o.arities(t):
		return api.ErrArity
	case !o.valid(t, s):
		return api.ErrInvalid
	}
	return api.OK
}

func oracleForm(t *api.Type) bool {
	n := len(t.Args)
	uses, right := "", n == 0
	switch t.Kind {
	case api.TClass:
		uses, right = "s", true
	case api.TParam, api.TThis, api.TLocal:
		uses = "s"
	case api.TMember, api.TField:
		uses, right = "s", n == 1
	case api.TBound:
		uses = "sn"
	case api.TVar:
		uses = "n"
	case api.TLambda:
		uses, right = "n", n == 1
	case api.TMatch:
		uses, right = "n", n == 3 || n > 3 && n < 42 && n&1 == 1
	case api.TRefine:
		uses, right = "N", n == 3
	case api.TArray, api.TByName, api.TRepeat:
		right = n == 1
	case api.TWild:
		right = n == 2
	case api.TAnd, api.TOr:
		right = n > 1 && n < 21
	case api.TFun:
		right = n > 0 && n < 14
	case api.TApply:
		right = n > 1 && n < 14
	}
	return right && (t.Sym == 0 || strings.Contains(uses, "s")) && (t.Num == 0 || strings.Contains(uses, "n")) && (t.Name == "" || strings.Contains(uses, "N"))
}

func within(i, low, high int) bool { return low <= i && i <= high }

func (o *oracle) found(t *api.Type, s spot) bool {
	p := &o.env.P
	switch t.Kind {
	case api.TClass, api.TThis:
		if !within(t.Sym, 0, len(p.Classes)-1) {
			return false
		}
		for _, k := range p.Classes[t.Sym].TParams {
			if t.Kind == api.TClass && !within(k, 0, len(p.TParams)-1) {
				return false
			}
		}
	case api.TParam:
		return within(t.Sym, 0, len(p.TParams)-1)
	case api.TMember:
		return within(t.Sym, 0, len(p.Types)-1)
	case api.TField:
		return within(t.Sym, 0, len(p.Fields)-1)
	case api.TLocal:
		return within(t.Sym, 0, len(o.env.Locals)-1)
	case api.TLambda:
		return within(t.Num, 1, 12)
	case api.TMatch:
		return within(t.Num, 0, 12)
	case api.TVar:
		return within(t.Num, 0, 99)
	case api.TBound:
		return within(t.Sym, 0, len(s.binders)-1) && within(t.Num, 0, s.binders[len(s.binders)-1-t.Sym]-1)
	}
	return true
}

func (o *oracle) arity(t *api.Type) int {
	p := &o.env.P
	switch {
	case t.Kind == api.TLambda:
		return t.Num
	case t.Kind == api.TParam && within(t.Sym, 0, len(p.TParams)-1):
		return p.TParams[t.Sym].Arity
	case t.Kind == api.TMember && within(t.Sym, 0, len(p.Types)-1):
		return p.Types[t.Sym].Arity
	}
	return 0
}

func (o *oracle) arities(t *api.Type) bool {
	for i := range t.Args {
		a := o.arity(&t.Args[i])
		wanted := 0
		if t.Kind == api.TApply && i == 0 {
			wanted = len(t.Args) - 1
		}
		if params := o.paramsOf(t); t.Kind == api.TClass {
			if i >= len(params) {
				return false
			}
			wanted = o.env.P.TParams[params[i]].Arity
			if t.Args[i].Kind == api.TWild {
				wanted = a
			}
		}
		if a != wanted {
			return false
		}
	}
	return t.Kind != api.TClass || len(t.Args) == len(o.paramsOf(t))
}

func (o *oracle) paramsOf(t *api.Type) []int {
	if t.Kind != api.TClass {
		return nil
	}
	return o.env.P.Classes[t.Sym].TParams
}

func (o *oracle) valid(t *api.Type, s spot) bool {
	flags := 0
	switch t.Kind {
	case api.TLocal:
		flags = o.env.Locals[t.Sym].Flags
	case api.TField:
		flags = o.env.P.Fields[t.Sym].Flags
	}
	if flags&128 != 0 || flags&256 != 0 {
		return false
	}
	switch t.Kind {
	case api.TMember, api.TField:
		k := t.Args[0].Kind
		return k == api.TThis || k == api.TLocal || k == api.TField
	case api.TByName, api.TRepeat:
		if s.above == nil {
			return true
		}
		last := len(s.above.Args) - 2
		return s.above.Kind == api.TFun && (s.index == last || s.index < last && t.Kind == api.TByName)
	case api.TWild:
		return s.above != nil && s.above.Kind == api.TClass
	case api.TRefine:
		return isName(t.Name)
	}
	return true
}

func isName(s string) bool {
	const operators, digits = "+-*/%<>=!&|^~:?", "0123456789"
	const letters = "_$abcdefghijklmnopqrstuvwxyzABCDEFGHIJKLMNOPQRSTUVWXYZ"
	if s == "" || len(s) > 64 {
		return false
	}
	return strings.Trim(s, operators) == "" || strings.Trim(s, letters+digits) == "" && !strings.Contains(digits, s[:1])
}
