package types

import (
	"iter"

	"newel/api"
)

// place is a node, and which of the Args of the node above it it is.
type place struct {
	*api.Type
	index int
}

// path is the way from a type down to one of its nodes, which is the last one.
type path []place

// nodes visits a type and all nodes below it, each one ahead of its Args. A
// path is the caller's until the next one comes.
func nodes(t *api.Type) iter.Seq[path] {
	return func(yield func(path) bool) {
		// Most types are not deeper than that.
		p := make(path, 0, api.MaxNest/4)
		visit(append(p, place{Type: t}), yield)
	}
}

func visit(p path, yield func(path) bool) bool {
	if !yield(p) {
		return false
	}
	t := p.node()
	for i := range t.Args {
		if !visit(append(p, place{&t.Args[i], i}), yield) {
			return false
		}
	}
	return true
}

// node returns the node to which a path leads.
func (p path) node() *api.Type {
	return p[len(p)-1].Type
}

// above returns the node above, and which of its Args the node is; nil for the
// type itself.
func (p path) above() (t *api.Type, index int) {
	if len(p) == 1 {
		return nil, 0
	}
	return p[len(p)-2].Type, p[len(p)-1].index
}

// binder returns the binder of a TBound with a Sym at the end of a path; nil if
// it belongs to none.
func (p path) binder(sym int) *api.Type {
	for ; len(p) > 1; p = p[:len(p)-1] {
		t, index := p.above()
		if !binds(t, index) {
			continue
		}
		if sym == 0 {
			return t
		}
		sym--
	}
	return nil
}

// binds reports whether a node is a binder of one of its Args.
func binds(t *api.Type, index int) bool {
	return t.Kind == api.TLambda && index == 0 || t.Kind == api.TMatch && index > 0
}

// Size returns the number of nodes of a type, at most MaxSize + 1.
func Size(t api.Type) int {
	size, _ := measure(&t)
	return size
}

// Depth returns how deep a type is nested, at most api.MaxNest + 1.
func Depth(t api.Type) int {
	size, depth := measure(&t)
	if size <= MaxSize {
		return depth
	}
	lists := [][]api.Type{{t}}
	for depth = 0; len(lists) > 0 && depth <= api.MaxNest; depth++ {
		lists = below(lists)
	}
	return depth
}

// limits returns the limit that a type exceeds.
func limits(t *api.Type) api.Errno {
	size, depth := measure(t)
	switch {
	case size > MaxSize:
		return api.ErrLimit
	case depth > api.MaxNest:
		return api.ErrDepth
	}
	return api.OK
}

// measure returns the size of a type and its depth; it stops where the size
// exceeds the limit, where the depth is that of a part only.
func measure(t *api.Type) (size, depth int) {
	for p := range nodes(t) {
		size++
		depth = max(depth, len(p))
		if size > MaxSize {
			break
		}
	}
	return size, min(depth, api.MaxNest+1)
}

// memory is where a list of types lies. Lists may share memory, also with
// themselves: what looks at their places comes to an end nevertheless.
type memory struct {
	first *api.Type
	count int
}

func memoryOf(l []api.Type) memory {
	return memory{first: &l[0], count: len(l)}
}

// below returns the Args of the types in some lists, each list once.
func below(lists [][]api.Type) [][]api.Type {
	var out [][]api.Type
	seen := map[memory]bool{}
	for _, l := range lists {
		for i := range l {
			args := l[i].Args
			if len(args) > 0 && !seen[memoryOf(args)] {
				seen[memoryOf(args)] = true
				out = append(out, args)
			}
		}
	}
	return out
}
