package types

import (
	"newel/api"
	"newel/symbols"
)

// maxVar is the greatest number of a type variable.
const maxVar = 99

// rule is a condition for each node of a type, and the error if it does not
// hold. A rule counts on those in front of it.
type rule struct {
	holds func(env *api.Env, p path) bool
	code  api.Errno
}

// rules returns the rules of Check in their order.
func rules() [5]rule {
	return [...]rule{
		{func(_ *api.Env, p path) bool { return isKind(p.node().Kind) }, api.ErrKind},
		{func(_ *api.Env, p path) bool { return hasForm(p.node()) }, api.ErrForm},
		{exists, api.ErrRange},
		{func(env *api.Env, p path) bool { return hasArities(env, p.node()) }, api.ErrArity},
		{isValid, api.ErrInvalid},
	}
}

// Check returns the first error of a type.
func Check(env api.Env, t api.Type) api.Errno {
	if e := limits(&t); e != api.OK {
		return e
	}
	rules := rules()
	for p := range nodes(&t) {
		for _, r := range rules {
			if !r.holds(&env, p) {
				return r.code
			}
		}
	}
	return api.OK
}

// exists reports whether what the symbol of a node names exists, and its number
// is in its range.
func exists(env *api.Env, p path) bool {
	t := p.node()
	switch t.Kind {
	case api.TClass:
		return isIndex(t.Sym, len(env.P.Classes)) && paramsExist(env, t.Sym)
	case api.TThis:
		return isIndex(t.Sym, len(env.P.Classes))
	case api.TParam:
		return isIndex(t.Sym, len(env.P.TParams))
	case api.TMember:
		return isIndex(t.Sym, len(env.P.Types))
	case api.TLocal:
		return isIndex(t.Sym, len(env.Locals))
	case api.TField:
		return isIndex(t.Sym, len(env.P.Fields))
	case api.TLambda:
		return t.Num >= 1 && t.Num <= api.MaxArgs
	case api.TMatch:
		return t.Num >= 0 && t.Num <= api.MaxArgs
	case api.TVar:
		return t.Num >= 0 && t.Num <= maxVar
	case api.TBound:
		b := p.binder(t.Sym)
		return b != nil && isIndex(t.Num, b.Num)
	}
	return true
}

// paramsExist reports whether the type parameters of a class exist.
func paramsExist(env *api.Env, class int) bool {
	for _, i := range env.P.Classes[class].TParams {
		if !isIndex(i, len(env.P.TParams)) {
			return false
		}
	}
	return true
}

// hasArities reports whether the Args of a node have the arities that it wants.
func hasArities(env *api.Env, t *api.Type) bool {
	switch t.Kind {
	case api.TClass:
		return fitParams(env, t)
	case api.TApply:
		return Arity(*env, t.Args[0]) == len(t.Args)-1 && areProper(env, t.Args[1:])
	}
	return areProper(env, t.Args)
}

// fitParams reports whether the Args of a TClass fit the type parameters of the
// class.
func fitParams(env *api.Env, t *api.Type) bool {
	params := env.P.Classes[t.Sym].TParams
	if len(params) != len(t.Args) {
		return false
	}
	for i, arg := range t.Args {
		if arg.Kind != api.TWild && Arity(*env, arg) != env.P.TParams[params[i]].Arity {
			return false
		}
	}
	return true
}

func areProper(env *api.Env, l []api.Type) bool {
	for _, t := range l {
		if Arity(*env, t) != 0 {
			return false
		}
	}
	return true
}

// isValid reports whether a node may stand where it stands, with its prefix or
// its name.
func isValid(env *api.Env, p path) bool {
	t := p.node()
	above, index := p.above()
	switch t.Kind {
	case api.TMember:
		return isSingleton(&t.Args[0])
	case api.TField:
		return isSingleton(&t.Args[0]) && isStable(env.P.Fields[t.Sym].Flags)
	case api.TLocal:
		return isStable(env.Locals[t.Sym].Flags)
	case api.TByName:
		return above == nil || above.Kind == api.TFun && index < len(above.Args)-1
	case api.TRepeat:
		return above == nil || above.Kind == api.TFun && index == len(above.Args)-2
	case api.TWild:
		return above != nil && above.Kind == api.TClass
	case api.TRefine:
		return symbols.IsName(t.Name)
	}
	return true
}

// isStable reports whether what has some flags always has the same value.
func isStable(flags int) bool {
	return flags&(api.Var|api.Lazy) == 0
}
