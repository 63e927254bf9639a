package symbols_test

import (
	"slices"
	"strings"

	"newel/api"
	"newel/symbols"
)

// The tests compare Check with a table of the conditions of the chapter, each
// of which looks at any program by itself: all that is broken is collected,
// and the first one in the order of the rules is the fault.

// condition is something that an element of an item may break. Conditions in a
// row with the same number of elements are asked element by element.
type condition struct {
	code     api.Errno
	elements func(p *api.Program, i int) int
	broken   func(p *api.Program, i, k int) bool
}

// pass is a rule for all items of a part.
type pass struct {
	part       int
	conditions []condition
}

// whole is a condition of an item.
func whole(code api.Errno, broken func(p *api.Program, i int) bool) condition {
	return condition{code, nil, func(p *api.Program, i, _ int) bool { return broken(p, i) }}
}

func of(part int, conditions ...condition) pass {
	return pass{part, conditions}
}

// at returns an element of a list, or the zero value.
func at[E any](list []E, i int) (e E, ok bool) {
	if i >= 0 && i < len(list) {
		return list[i], true
	}
	return e, false
}

func flagsOf(names ...int) map[int]bool {
	set := map[int]bool{}
	for _, f := range names {
		set[f] = true
	}
	return set
}

// otherFlag tells whether a number has a bit that is not permitted.
func otherFlag(number int, permitted map[int]bool) bool {
	for bit := range 64 {
		if number>>bit&1 != 0 && !permitted[1<<bit] {
			return true
		}
	}
	return false
}

func flag(number, f int) bool { return number&f != 0 }

func isNameText(s string) bool {
	const letters = "abcdefghijklmnopqrstuvwxyzABCDEFGHIJKLMNOPQRSTUVWXYZ_$"
	only := func(bytes string) bool {
		return !slices.ContainsFunc([]byte(s), func(b byte) bool { return !strings.Contains(bytes, string(rune(b))) })
	}
	return len(s) > 0 && len(s) <= 64 && (only("+-*/%<>=!&|^~:?") || only(letters+"0123456789") && (s[0] < '0' || s[0] > '9'))
}

// aroundTable tells which class is inside of which one.
func aroundTable(p *api.Program) [][]bool {
	return closure(len(p.Classes), func(i, k int) bool { return p.Classes[i].Owner == k })
}

// ancestorTable tells which class has which one as an ancestor.
func ancestorTable(p *api.Program) [][]bool {
	return closure(len(p.Classes), func(i, k int) bool {
		return slices.ContainsFunc(p.Classes[i].Parents, func(t api.Type) bool { return t.Kind == api.TClass && t.Sym == k })
	})
}

// closure returns the transitive closure of a relation.
func closure(n int, related func(i, k int) bool) [][]bool {
	r := make([][]bool, n)
	for i := range r {
		r[i] = make([]bool, n)
		for k := range n {
			r[i][k] = related(i, k)
		}
	}
	for m := range n {
		for i := range n {
			for k := range n {
				r[i][k] = r[i][k] || r[i][m] && r[m][k]
			}
		}
	}
	return r
}

func missing(list []int, n int) bool {
	return slices.ContainsFunc(list, func(i int) bool { return i < 0 || i >= n })
}

func repeated[E comparable](list []E) bool {
	for i := range list {
		if slices.Contains(list[:i], list[i]) {
			return true
		}
	}
	return false
}

// class2 are the conditions of rule 2.
func class2() pass {
	on := func(code api.Errno, broken func(p *api.Program, i int, c *api.Class) bool) condition {
		return whole(code, func(p *api.Program, i int) bool { return broken(p, i, &p.Classes[i]) })
	}
	return of(symbols.PClass,
		on(api.ErrName, func(_ *api.Program, _ int, c *api.Class) bool { return !isNameText(c.Name) }),
		on(api.ErrKind, func(_ *api.Program, _ int, c *api.Class) bool {
			return c.Kind != api.IsClass && c.Kind != api.IsTrait && c.Kind != api.IsObject
		}),
		on(api.ErrInvalid, func(_ *api.Program, _ int, c *api.Class) bool {
			isTrait, isObject := c.Kind == api.IsTrait, c.Kind == api.IsObject
			return otherFlag(c.Flags, flagsOf(1, 2, 4, 8, 32, 64, 16384)) || flag(c.Flags, 1) && flag(c.Flags, 2) ||
				isTrait && flag(c.Flags, 2+32+64) || isObject && flag(c.Flags, 1+4+64)
		}),
		on(api.ErrRange, func(p *api.Program, i int, c *api.Class) bool {
			return c.Owner == i || c.Owner < -1 || c.Owner >= len(p.Classes) ||
				missing(c.TParams, len(p.TParams)) || missing(c.Params, len(p.Fields)) || missing(c.Fields, len(p.Fields)) ||
				missing(c.Methods, len(p.Methods)) || missing(c.Types, len(p.Types))
		}),
		on(api.ErrTwice, func(p *api.Program, i int, c *api.Class) bool {
			return slices.ContainsFunc([][]int{c.TParams, c.Params, c.Fields, c.Methods, c.Types}, repeated)
		}),
		on(api.ErrArity, func(p *api.Program, i int, c *api.Class) bool {
			return len(c.TParams) > 12 || len(c.Params) > 12 || len(c.Params) > 0 && c.Kind != api.IsClass || len(c.TParams) > 0 && c.Kind == api.IsObject
		}),
		on(api.ErrInvalid, strangerInLists),
		on(api.ErrInvalid, func(p *api.Program, i int, c *api.Class) bool {
			return flag(c.Flags, api.Value) && !(len(c.Params) == 1 && slices.Equal(c.Params, c.Fields))
		}),
	)
}

func strangerInLists(p *api.Program, i int, c *api.Class) bool {
	for _, k := range c.TParams {
		if t, ok := at(p.TParams, k); ok && (t.Class != i || t.Method != -1) {
			return true
		}
	}
	for _, k := range c.Fields {
		if f, ok := at(p.Fields, k); ok && f.Owner != i {
			return true
		}
	}
	for _, k := range c.Methods {
		if m, ok := at(p.Methods, k); ok && m.Owner != i {
			return true
		}
	}
	for _, k := range c.Types {
		if m, ok := at(p.Types, k); ok && m.Owner != i {
			return true
		}
	}
	return slices.ContainsFunc(c.Params, func(k int) bool { return !slices.Contains(c.Fields, k) })
}

// parents4 are the conditions of rule 4.
func parents4() pass {
	count := func(p *api.Program, i int) int { return len(p.Classes[i].Parents) }
	on := func(code api.Errno, broken func(c *api.Class, k int, t api.Type, d api.Class, ok bool) bool) condition {
		return condition{code, count, func(p *api.Program, i, k int) bool {
			c := &p.Classes[i]
			t := c.Parents[k]
			if k == 0 && t.Kind == api.TAny {
				return false
			}
			d, ok := at(p.Classes, t.Sym)
			return broken(c, k, t, d, ok)
		}}
	}
	return of(symbols.PClass,
		whole(api.ErrEmpty, func(p *api.Program, i int) bool { return count(p, i) == 0 }),
		whole(api.ErrLimit, func(p *api.Program, i int) bool { return count(p, i) > 12 }),
		on(api.ErrKind, func(_ *api.Class, _ int, t api.Type, _ api.Class, _ bool) bool { return t.Kind != api.TClass }),
		on(api.ErrRange, func(_ *api.Class, _ int, _ api.Type, _ api.Class, ok bool) bool { return !ok }),
		on(api.ErrKind, func(c *api.Class, k int, t api.Type, d api.Class, ok bool) bool {
			if k > 0 {
				return d.Kind != api.IsTrait
			}
			return d.Kind == api.IsTrait || d.Kind == api.IsObject || c.Kind == api.IsTrait
		}),
		on(api.ErrFinal, func(_ *api.Class, _ int, _ api.Type, d api.Class, _ bool) bool { return flag(d.Flags, api.Final) }),
		on(api.ErrArity, func(_ *api.Class, _ int, t api.Type, d api.Class, _ bool) bool { return len(t.Args) != len(d.TParams) }),
		on(api.ErrTwice, func(c *api.Class, k int, t api.Type, _ api.Class, _ bool) bool {
			return slices.ContainsFunc(c.Parents[:k], func(u api.Type) bool { return u.Kind == api.TClass && u.Sym == t.Sym })
		}),
		on(api.ErrInvalid, func(c *api.Class, k int, t api.Type, d api.Class, _ bool) bool {
			return flag(c.Flags, api.Case) && flag(d.Flags, api.Case) || flag(c.Flags, api.Value) && c.Parents[0].Kind != api.TAny
		}),
	)
}

// method6 are the conditions of rule 6.
func method6() pass {
	on := func(code api.Errno, broken func(p *api.Program, i int, m *api.Method) bool) condition {
		return whole(code, func(p *api.Program, i int) bool { return broken(p, i, &p.Methods[i]) })
	}
	count := func(p *api.Program, i int) int { return len(p.Methods[i].Locals) }
	return of(symbols.PMethod,
		on(api.ErrName, func(_ *api.Program, _ int, m *api.Method) bool { return !isNameText(m.Name) }),
		on(api.ErrInvalid, func(_ *api.Program, _ int, m *api.Method) bool {
			return otherFlag(m.Flags, flagsOf(1, 2, 8, 16, 1024, 4096, 8192, 16384)) || flag(m.Flags, 1) && m.Body != nil ||
				!flag(m.Flags, 1) && m.Body == nil || flag(m.Flags, 1) && (flag(m.Flags, 2) || flag(m.Flags, 8) || flag(m.Flags, 4096))
		}),
		on(api.ErrRange, func(p *api.Program, _ int, m *api.Method) bool {
			return m.Owner < -1 || m.Owner >= len(p.Classes) || missing(m.TParams, len(p.TParams))
		}),
		on(api.ErrTwice, func(_ *api.Program, _ int, m *api.Method) bool { return repeated(m.TParams) }),
		on(api.ErrArity, func(_ *api.Program, _ int, m *api.Method) bool {
			return len(m.TParams) > 12 || m.Params < 0 || m.Params > 12 || m.Params > len(m.Locals)
		}),
		on(api.ErrLimit, func(_ *api.Program, _ int, m *api.Method) bool { return len(m.Locals) > 200 }),
		condition{api.ErrName, count, func(p *api.Program, i, k int) bool { return !isNameText(p.Methods[i].Locals[k].Name) }},
		condition{api.ErrInvalid, count, func(p *api.Program, i, k int) bool {
			m := &p.Methods[i]
			flags := m.Locals[k].Flags
			return otherFlag(flags, flagsOf(128, 256, 1024, 2048, 16384)) || flag(flags, 128) && flag(flags, 256) ||
				k < m.Params && otherFlag(flags, flagsOf(2048, 16384))
		}},
		on(api.ErrTwice, func(_ *api.Program, _ int, m *api.Method) bool {
			var names []string
			for k := 0; k < m.Params && k < len(m.Locals); k++ {
				names = append(names, m.Locals[k].Name)
			}
			return repeated(names)
		}),
		on(api.ErrInvalid, func(p *api.Program, i int, m *api.Method) bool {
			return slices.ContainsFunc(m.TParams, func(k int) bool {
				t, ok := at(p.TParams, k)
				return ok && (t.Method != i || t.Class != -1)
			})
		}),
		on(api.ErrNoEntry, func(p *api.Program, i int, m *api.Method) bool {
			c, ok := at(p.Classes, m.Owner)
			return ok && !slices.Contains(c.Methods, i)
		}),
		on(api.ErrAbstract, func(p *api.Program, _ int, m *api.Method) bool {
			c, ok := at(p.Classes, m.Owner)
			return flag(m.Flags, 1) && (!ok || c.Kind != api.IsTrait && !flag(c.Flags, 1))
		}),
		on(api.ErrInvalid, func(p *api.Program, _ int, m *api.Method) bool { return flag(m.Flags, 16) && m.Owner == -1 }),
	)
}

// members7 are the conditions of rule 7.
func members7() []pass {
	field := func(code api.Errno, broken func(p *api.Program, i int, f *api.Field, c api.Class, ok bool) bool) condition {
		return whole(code, func(p *api.Program, i int) bool {
			c, ok := at(p.Classes, p.Fields[i].Owner)
			return broken(p, i, &p.Fields[i], c, ok)
		})
	}
	tparam := func(code api.Errno, broken func(p *api.Program, i int, t *api.TypeParam) bool) condition {
		return whole(code, func(p *api.Program, i int) bool { return broken(p, i, &p.TParams[i]) })
	}
	member := func(code api.Errno, broken func(p *api.Program, i int, m *api.TypeMember) bool) condition {
		return whole(code, func(p *api.Program, i int) bool { return broken(p, i, &p.Types[i]) })
	}
	return []pass{
		of(symbols.PField,
			field(api.ErrName, func(_ *api.Program, _ int, f *api.Field, _ api.Class, _ bool) bool { return !isNameText(f.Name) }),
			field(api.ErrInvalid, func(_ *api.Program, _ int, f *api.Field, _ api.Class, _ bool) bool {
				return otherFlag(f.Flags, flagsOf(2, 8, 16, 128, 256, 512, 1024, 16384)) || flag(f.Flags, 256) && flag(f.Flags, 128) ||
					flag(f.Flags, 512) && !flag(f.Flags, 128)
			}),
			field(api.ErrRange, func(_ *api.Program, _ int, _ *api.Field, _ api.Class, ok bool) bool { return !ok }),
			field(api.ErrNoEntry, func(_ *api.Program, i int, _ *api.Field, c api.Class, _ bool) bool {
				return !slices.Contains(c.Fields, i)
			}),
			field(api.ErrInvalid, func(_ *api.Program, i int, f *api.Field, c api.Class, _ bool) bool {
				return flag(f.Flags, 256) && slices.Contains(c.Params, i)
			})),
		of(symbols.PTParam,
			tparam(api.ErrName, func(_ *api.Program, _ int, t *api.TypeParam) bool { return !isNameText(t.Name) }),
			tparam(api.ErrRange, func(_ *api.Program, _ int, t *api.TypeParam) bool {
				return t.Variance < -1 || t.Variance > 1 || t.Arity < 0 || t.Arity > 12
			}),
			tparam(api.ErrRange, func(p *api.Program, _ int, t *api.TypeParam) bool {
				_, isClass := at(p.Classes, t.Class)
				_, isMethod := at(p.Methods, t.Method)
				return !(isClass && t.Method == -1) && !(t.Class == -1 && isMethod)
			}),
			tparam(api.ErrNoEntry, func(p *api.Program, i int, t *api.TypeParam) bool {
				c, isClass := at(p.Classes, t.Class)
				m, isMethod := at(p.Methods, t.Method)
				return isClass && !slices.Contains(c.TParams, i) || isMethod && !slices.Contains(m.TParams, i)
			}),
			tparam(api.ErrVariance, func(p *api.Program, _ int, t *api.TypeParam) bool {
				_, isMethod := at(p.Methods, t.Method)
				return isMethod && t.Variance != 0
			})),
		of(symbols.PTypeMember,
			member(api.ErrName, func(_ *api.Program, _ int, m *api.TypeMember) bool { return !isNameText(m.Name) }),
			member(api.ErrRange, func(p *api.Program, _ int, m *api.TypeMember) bool {
				_, ok := at(p.Classes, m.Owner)
				return !ok || m.Arity < 0 || m.Arity > 12
			}),
			member(api.ErrNoEntry, func(p *api.Program, i int, m *api.TypeMember) bool {
				c, _ := at(p.Classes, m.Owner)
				return !slices.Contains(c.Types, i)
			})),
	}
}

// twins8 are the conditions of rule 8.
func twins8() []pass {
	earlier := func(part int, same func(p *api.Program, k, i int) bool) pass {
		return of(part, whole(api.ErrTwice, func(p *api.Program, i int) bool {
			for k := range i {
				if same(p, k, i) {
					return true
				}
			}
			return false
		}))
	}
	return []pass{
		earlier(symbols.PClass, func(p *api.Program, k, i int) bool {
			c, d := p.Classes[k], p.Classes[i]
			return c.Owner == d.Owner && c.Name == d.Name && (c.Kind == api.IsObject) == (d.Kind == api.IsObject)
		}),
		earlier(symbols.PField, func(p *api.Program, k, i int) bool {
			return p.Fields[k].Owner == p.Fields[i].Owner && p.Fields[k].Name == p.Fields[i].Name
		}),
		of(symbols.PMethod, whole(api.ErrTwice, func(p *api.Program, i int) bool {
			c, _ := at(p.Classes, p.Methods[i].Owner)
			return slices.ContainsFunc(c.Fields, func(k int) bool {
				f, ok := at(p.Fields, k)
				return ok && f.Name == p.Methods[i].Name
			})
		})),
		earlier(symbols.PTypeMember, func(p *api.Program, k, i int) bool {
			return p.Types[k].Owner == p.Types[i].Owner && p.Types[k].Name == p.Types[i].Name
		}),
		earlier(symbols.PTParam, func(p *api.Program, k, i int) bool {
			t, u := p.TParams[k], p.TParams[i]
			return t.Class == u.Class && t.Method == u.Method && t.Name == u.Name
		}),
	}
}

// passes are the rules 2 to 8.
func passes(p *api.Program) []pass {
	inside, ancestors := aroundTable(p), ancestorTable(p)
	nesting := of(symbols.PClass, whole(api.ErrCycle, func(_ *api.Program, i int) bool { return inside[i][i] }))
	ancestry := of(symbols.PClass,
		whole(api.ErrCycle, func(_ *api.Program, i int) bool { return ancestors[i][i] }),
		whole(api.ErrInvalid, func(p *api.Program, i int) bool {
			isCase := false
			for k := range p.Classes {
				isCase = isCase || ancestors[i][k] && flag(p.Classes[k].Flags, api.Case)
			}
			return isCase && flag(p.Classes[i].Flags, api.Case)
		}))
	return slices.Concat([]pass{class2(), nesting, parents4(), ancestry, method6()}, members7(), twins8())
}

// first is the first fault by the table.
func first(p *api.Program) symbols.Fault {
	sizes := []int{0, len(p.Classes), len(p.Methods), len(p.Fields), len(p.TParams), len(p.Types)}
	if slices.Max(sizes) > 500 {
		return fault(0, 0, api.ErrLimit)
	}
	for _, r := range passes(p) {
		for i := range sizes[r.part] {
			if code := firstOfItem(p, i, r.conditions); code != api.OK {
				return fault(r.part, i, code)
			}
		}
	}
	if code := mainFault(p); code != api.OK {
		return fault(symbols.PMain, p.Main, code)
	}
	return symbols.Fault{}
}

// firstOfItem finds the first condition that an item breaks.
func firstOfItem(p *api.Program, i int, list []condition) api.Errno {
	for len(list) > 0 {
		if list[0].elements == nil {
			if list[0].broken(p, i, 0) {
				return list[0].code
			}
			list = list[1:]
			continue
		}
		last := 1
		for last < len(list) && list[last].elements != nil {
			last++
		}
		for k := range list[0].elements(p, i) {
			for _, c := range list[:last] {
				if c.broken(p, i, k) {
					return c.code
				}
			}
		}
		list = list[last:]
	}
	return api.OK
}

// mainFault is the fault of rule 9.
func mainFault(p *api.Program) api.Errno {
	m, ok := at(p.Methods, p.Main)
	c, isMember := at(p.Classes, m.Owner)
	switch {
	case p.Main == -1:
		return api.OK
	case !ok:
		return api.ErrRange
	case m.Params != 0, len(m.TParams) != 0, flag(m.Flags, api.Abstract), isMember && (c.Kind != api.IsObject || c.Owner != -1):
		return api.ErrInvalid
	}
	return api.OK
}
