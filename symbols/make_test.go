package symbols_test

import (
	"math"
	"slices"
	"strconv"
	"strings"

	"newel/api"
)

// chooser makes programs by numbers that it is given.
type chooser struct{ next func(n int) int }

// fromBytes is a chooser by the bytes of a text; behind them all numbers are 0.
func fromBytes(data []byte) chooser {
	return chooser{func(n int) int {
		if len(data) == 0 {
			return 0
		}
		b := int(data[0])
		data = data[1:]
		return b % n
	}}
}

// often is true about once in n times.
func (c chooser) oneIn(n int) bool { return c.next(n) == n-1 }

func pick[E any](c chooser, list ...E) E { return list[c.next(len(list))] }

// some returns some of the flags of a number.
func (c chooser) some(flags int) int {
	n := 0
	for bit := 1; bit <= flags; bit <<= 1 {
		if flags&bit != 0 && c.oneIn(4) {
			n |= bit
		}
	}
	return n
}

// permuted returns the numbers from 0 to n - 1 in some order.
func (c chooser) permuted(n int) []int {
	l := make([]int, n)
	for i := range l {
		k := c.next(i + 1)
		l[i] = l[k]
		l[k] = i
	}
	return l
}

// shuffle changes the order of a list.
func (c chooser) shuffle(list []int) []int {
	var l []int
	for _, i := range c.permuted(len(list)) {
		l = append(l, list[i])
	}
	return l
}

// name returns a name that is not in use.
func (c chooser) name(used func(string) bool) string {
	s := pick(c, "a", "b", "A", "B", "$", "_", "+", "::", "x9", "Main", strings.Repeat("n", 62), strings.Repeat("<", 62))
	for i := 0; used(s); i++ {
		s = pick(c, "a", "A", "_") + strconv.Itoa(i)
	}
	return s
}

// rightProgram makes a program that Check accepts.
func rightProgram(c chooser) api.Program {
	r := &maker{chooser: c, builder: newBuilder()}
	for range c.next(7) {
		r.addClass()
	}
	for range c.next(3) {
		r.addMethod(-1)
	}
	r.p.Main = pick(c, append(r.mains(), -1)...)
	return r.renumbered()
}

// maker adds items that keep a program right.
type maker struct {
	chooser
	*builder
}

func (r *maker) has(class, flag int) bool { return r.p.Classes[class].Flags&flag != 0 }

// withAncestors returns a class and its ancestors.
func (r *maker) withAncestors(class int) []int {
	l := []int{class}
	for _, t := range r.p.Classes[class].Parents {
		if t.Kind == api.TClass {
			l = append(l, r.withAncestors(t.Sym)...)
		}
	}
	return l
}

func (r *maker) addClass() {
	kind := pick(r.chooser, api.IsClass, api.IsClass, api.IsTrait, api.IsObject)
	flags := r.some(api.Private | api.Synthetic | []int{api.Abstract | api.Sealed | api.Final | api.Case | api.Value, api.Abstract | api.Sealed, api.Final | api.Case}[kind])
	if flags&api.Abstract != 0 {
		flags &^= api.Final
	}
	parents := r.parents(kind, flags)
	for _, i := range parents {
		if slices.ContainsFunc(r.withAncestors(i), func(k int) bool { return r.has(k, api.Case) }) {
			flags &^= api.Case
		}
	}
	owner := r.next(len(r.p.Classes)+1) - 1
	name := r.name(func(s string) bool {
		return slices.ContainsFunc(r.p.Classes, func(c api.Class) bool { return c.Owner == owner && c.Name == s })
	})
	if twin := slices.IndexFunc(r.p.Classes, func(c api.Class) bool {
		return c.Owner == owner && (c.Kind == api.IsObject) != (kind == api.IsObject)
	}); twin >= 0 && r.oneIn(2) {
		name = r.companion(owner, r.p.Classes[twin].Name, name)
	}
	i := r.class(kind, flags, owner, name, parents...)
	r.addTParams(kind, i)
	r.addMembers(i)
}

// companion returns the name of a class that is still alone, or another one.
func (r *maker) companion(owner int, name, other string) string {
	count := 0
	for _, c := range r.p.Classes {
		if c.Owner == owner && c.Name == name {
			count++
		}
	}
	if count > 1 {
		return other
	}
	return name
}

// parents returns classes that can be parents behind or instead of TAny.
func (r *maker) parents(kind, flags int) []int {
	var l []int
	for _, i := range r.permuted(len(r.p.Classes)) {
		if r.p.Classes[i].Kind == api.IsTrait && r.oneIn(2) && len(l) < 11 {
			l = append(l, i)
		}
	}
	if kind == api.IsTrait || flags&api.Value != 0 {
		return l
	}
	for _, i := range r.permuted(len(r.p.Classes)) {
		bothCase := flags&api.Case != 0 && r.has(i, api.Case)
		if r.p.Classes[i].Kind == api.IsClass && !r.has(i, api.Final) && !bothCase && r.oneIn(2) {
			return append([]int{i}, l...)
		}
	}
	return l
}

func (r *maker) addTParams(kind, class int) {
	if kind == api.IsObject {
		return
	}
	for range r.next(4) {
		used := func(s string) bool {
			return slices.ContainsFunc(r.p.TParams, func(t api.TypeParam) bool { return t.Class == class && t.Name == s })
		}
		i := r.tparam(class, -1, r.next(3)-1, r.name(used))
		r.p.TParams[i].Arity = pick(r.chooser, 0, 0, 1, 12)
	}
}

func (r *maker) addMembers(class int) {
	hasField := func(s string) bool {
		return slices.ContainsFunc(r.p.Fields, func(f api.Field) bool { return f.Owner == class && f.Name == s })
	}
	hasType := func(s string) bool {
		return slices.ContainsFunc(r.p.Types, func(m api.TypeMember) bool { return m.Owner == class && m.Name == s })
	}
	count := r.next(4)
	if r.has(class, api.Value) {
		count = 1
	}
	for range count {
		flags := r.some(api.Final | api.Private | api.Override | api.Var | api.Given | api.Synthetic)
		if flags&api.Var != 0 {
			flags |= r.some(api.Volatile)
		}
		name := r.name(hasField)
		if r.p.Classes[class].Kind == api.IsClass && (r.has(class, api.Value) || r.oneIn(2)) {
			r.param(class, flags, name)
			continue
		}
		if flags&api.Var == 0 {
			flags |= r.some(api.Lazy)
		}
		r.field(class, flags, name)
	}
	for range r.next(3) {
		r.addMethod(class)
	}
	for range r.next(3) {
		r.p.Types[r.typeMember(class, r.name(hasType))].Arity = pick(r.chooser, 0, 0, 1, 12)
	}
}

func (r *maker) addMethod(owner int) {
	flags := r.some(api.Final | api.Private | api.Override | api.Given | api.Inline | api.Extension | api.Synthetic)
	if owner < 0 {
		flags &^= api.Override
	} else if (r.p.Classes[owner].Kind == api.IsTrait || r.has(owner, api.Abstract)) && r.oneIn(2) {
		flags = flags&^(api.Final|api.Private|api.Inline) | api.Abstract
	}
	name := r.name(func(s string) bool {
		return slices.ContainsFunc(r.p.Fields, func(f api.Field) bool { return f.Owner == owner && f.Name == s })
	})
	var params []string
	for range r.next(3) {
		params = append(params, r.name(func(s string) bool { return slices.Contains(params, s) }))
	}
	i := r.method(owner, flags, name, params...)
	m := &r.p.Methods[i]
	for k := range m.Locals {
		m.Locals[k].Flags = r.some(api.Using | api.Synthetic)
	}
	for range r.next(3) {
		local := api.Local{Name: r.name(func(string) bool { return false }), Flags: r.some(api.Var | api.Given | api.Using | api.Synthetic)}
		if local.Flags&api.Var == 0 {
			local.Flags |= r.some(api.Lazy)
		}
		m.Locals = append(m.Locals, local)
	}
	for range r.next(3) {
		used := func(s string) bool {
			return slices.ContainsFunc(r.p.TParams, func(t api.TypeParam) bool { return t.Method == i && t.Name == s })
		}
		r.tparam(-1, i, 0, r.name(used))
	}
}

// mains returns the methods that can be the main method.
func (r *maker) mains() []int {
	var l []int
	for i, m := range r.p.Methods {
		if m.Params == 0 && len(m.TParams) == 0 && m.Flags&api.Abstract == 0 &&
			(m.Owner < 0 || r.p.Classes[m.Owner].Kind == api.IsObject && r.p.Classes[m.Owner].Owner == -1) {
			l = append(l, i)
		}
	}
	return l
}

// renumbered returns the program with all tables and lists in another order.
func (r *maker) renumbered() api.Program {
	p := r.p
	classes, methods, fields := r.permuted(len(p.Classes)), r.permuted(len(p.Methods)), r.permuted(len(p.Fields))
	tparams, types := r.permuted(len(p.TParams)), r.permuted(len(p.Types))
	all := func(list []int, by []int) []int {
		l := r.shuffle(list)
		for i := range l {
			l[i] = by[l[i]]
		}
		return l
	}
	one := func(i *int, by []int) {
		if *i >= 0 {
			*i = by[*i]
		}
	}
	for i := range p.Classes {
		c := &p.Classes[i]
		one(&c.Owner, classes)
		c.TParams, c.Params, c.Fields = all(c.TParams, tparams), all(c.Params, fields), all(c.Fields, fields)
		c.Methods, c.Types = all(c.Methods, methods), all(c.Types, types)
		for k := range c.Parents {
			if c.Parents[k].Kind == api.TClass {
				one(&c.Parents[k].Sym, classes)
			}
			c.Parents[k].Args = make([]api.Type, len(c.Parents[k].Args))
		}
	}
	for i := range p.Methods {
		one(&p.Methods[i].Owner, classes)
		p.Methods[i].TParams = all(p.Methods[i].TParams, tparams)
	}
	for i := range p.Fields {
		one(&p.Fields[i].Owner, classes)
	}
	for i := range p.TParams {
		one(&p.TParams[i].Class, classes)
		one(&p.TParams[i].Method, methods)
	}
	for i := range p.Types {
		one(&p.Types[i].Owner, classes)
	}
	one(&p.Main, methods)
	return api.Program{Classes: placed(p.Classes, classes), Methods: placed(p.Methods, methods), Fields: placed(p.Fields, fields),
		TParams: placed(p.TParams, tparams), Types: placed(p.Types, types), Main: p.Main}
}

// placed puts each element of a list at its new place.
func placed[E any](list []E, by []int) []E {
	l := make([]E, len(list))
	for i := range list {
		l[by[i]] = list[i]
	}
	return l
}

// places are what a random change may change.
type places struct {
	ints, flags []*int
	names       []*string
	lists       []*[]int
	parents     []*[]api.Type
	locals      []*[]api.Local
	bodies      []**api.Tree
}

func placesOf(p *api.Program) places {
	s := places{ints: []*int{&p.Main}}
	for i := range p.Classes {
		c := &p.Classes[i]
		s.ints = append(s.ints, &c.Kind, &c.Owner)
		s.flags = append(s.flags, &c.Flags)
		s.names = append(s.names, &c.Name)
		s.lists = append(s.lists, &c.TParams, &c.Params, &c.Fields, &c.Methods, &c.Types)
		s.parents = append(s.parents, &c.Parents)
		for k := range c.Parents {
			s.ints = append(s.ints, &c.Parents[k].Kind, &c.Parents[k].Sym)
		}
	}
	for i := range p.Methods {
		m := &p.Methods[i]
		s.ints = append(s.ints, &m.Owner, &m.Params)
		s.flags = append(s.flags, &m.Flags)
		s.names = append(s.names, &m.Name)
		s.lists = append(s.lists, &m.TParams)
		s.locals = append(s.locals, &m.Locals)
		s.bodies = append(s.bodies, &m.Body)
		for k := range m.Locals {
			s.flags = append(s.flags, &m.Locals[k].Flags)
			s.names = append(s.names, &m.Locals[k].Name)
		}
	}
	for i := range p.Fields {
		s.ints = append(s.ints, &p.Fields[i].Owner)
		s.flags = append(s.flags, &p.Fields[i].Flags)
		s.names = append(s.names, &p.Fields[i].Name)
	}
	for i := range p.TParams {
		t := &p.TParams[i]
		s.ints = append(s.ints, &t.Class, &t.Method, &t.Variance, &t.Arity)
		s.names = append(s.names, &t.Name)
	}
	for i := range p.Types {
		s.ints = append(s.ints, &p.Types[i].Owner, &p.Types[i].Arity)
		s.names = append(s.names, &p.Types[i].Name)
	}
	return s
}

// mutate makes one random change of a program.
func mutate(c chooser, p *api.Program) {
	s := placesOf(p)
	kinds := []func(){
		func() { c.changeInt(pick(c, s.ints...), len(p.Classes)) },
		func() { c.changeInt(pick(c, s.ints...), len(p.Methods)) },
		func() { c.changeTable(p) },
	}
	if len(s.flags) > 0 {
		kinds = append(kinds, func() { *pick(c, s.flags...) ^= 1 << c.next(17) }, func() { *pick(c, s.flags...) |= pick(c, math.MinInt, -2, 1<<40) })
	}
	if len(s.names) > 0 {
		kinds = append(kinds, func() { *pick(c, s.names...) = *pick(c, s.names...) }, func() { equalNames(c, p) }, func() {
			*pick(c, s.names...) = pick(c, "", "1a", "a.b", "a#", "+a", strings.Repeat("n", 65), "\xff", "é", "a\n")
		})
	}
	if len(p.Classes) > 0 {
		kinds = append(kinds, func() { c.changeParents(pick(c, s.parents...), len(p.Classes)) }, func() {
			p.Classes[c.next(len(p.Classes))].Owner = c.next(len(p.Classes))
		})
	}
	if len(s.lists) > 0 {
		kinds = append(kinds, func() { c.changeList(pick(c, s.lists...)) })
	}
	if len(p.Methods) > 0 {
		kinds = append(kinds, func() { *pick(c, s.bodies...) = pick(c, nil, &api.Tree{}) }, func() {
			m := &p.Methods[c.next(len(p.Methods))]
			m.Flags, m.Body = api.Abstract, nil
		}, func() {
			l := pick(c, s.locals...)
			*l = slices.Repeat(*l, pick(c, 0, 2, 13, 101))
		})
	}
	pick(c, kinds...)()
}

// equalNames gives two items of one class, or of one owner, one name.
func equalNames(c chooser, p *api.Program) {
	if len(p.Classes) == 0 {
		return
	}
	class := &p.Classes[c.next(len(p.Classes))]
	var names []*string
	for _, i := range class.Fields {
		if i >= 0 && i < len(p.Fields) {
			names = append(names, &p.Fields[i].Name)
		}
	}
	for _, i := range class.Types {
		if i >= 0 && i < len(p.Types) {
			names = append(names, &p.Types[i].Name)
		}
	}
	for _, i := range class.TParams {
		if i >= 0 && i < len(p.TParams) {
			names = append(names, &p.TParams[i].Name)
		}
	}
	if len(names) > 0 {
		*pick(c, names...) = *pick(c, names...)
	}
}

func (c chooser) changeInt(i *int, n int) {
	*i = pick(c, -2, -1, 0, 1, 2, 3, n-1, n, n+1, 12, 13, *i+1, *i-1, math.MinInt, math.MaxInt)
}

func (c chooser) changeList(l *[]int) {
	i := c.next(len(*l) + 1)
	n := pick(c, -1, 0, 1, 2, 3, 4, 5, 6, math.MaxInt, math.MinInt)
	switch {
	case c.oneIn(2) || i == len(*l):
		*l = slices.Insert(*l, i, n)
	case c.oneIn(2):
		*l = slices.Delete(*l, i, i+1)
	default:
		(*l)[i] = n
	}
}

func (c chooser) changeParents(l *[]api.Type, n int) {
	if c.oneIn(8) {
		*l = slices.Repeat(*l, 7)
		return
	}
	i := c.next(len(*l) + 1)
	t := api.Type{Kind: pick(c, api.TClass, api.TClass, api.TClass, api.TAny, api.TString, -1), Sym: c.next(n+2) - 1, Args: make([]api.Type, c.next(3))}
	switch {
	case c.oneIn(2) || i == len(*l):
		*l = slices.Insert(*l, i, t)
	case c.oneIn(2):
		*l = slices.Delete(*l, i, i+1)
	default:
		(*l)[i] = t
	}
}

// changeTable takes an item away, or doubles one.
func (c chooser) changeTable(p *api.Program) {
	switch c.next(5) {
	case 0:
		changeEnd(c, &p.Classes)
	case 1:
		changeEnd(c, &p.Methods)
	case 2:
		changeEnd(c, &p.Fields)
	case 3:
		changeEnd(c, &p.TParams)
	case 4:
		changeEnd(c, &p.Types)
	}
}

func changeEnd[E any](c chooser, table *[]E) {
	n := len(*table)
	if n > 0 && c.oneIn(2) {
		*table = append(*table, (*table)[c.next(n)])
	} else if n > 0 {
		*table = (*table)[:n-1]
	}
}
