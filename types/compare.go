package types

import (
	"cmp"
	"strings"

	"newel/api"
)

// Compare compares types by Kind, Sym, Name, Num, the number of Args and then
// the Args, api.MaxNest levels deep.
func Compare(a, b api.Type) int {
	var c comparison
	return c.compare(&a, &b, 1)
}

// Equal reports whether types are equal.
func Equal(a, b api.Type) bool {
	return Compare(a, b) == 0
}

// comparison compares types. After many steps it remembers which lists it
// found equal, since lists may share memory.
type comparison struct {
	steps int
	equal map[lists]bool
}

// lists are two lists of Args at a level.
type lists struct {
	a, b  memory
	level int
}

func (c *comparison) compare(a, b *api.Type, level int) int {
	first := cmp.Or(
		cmp.Compare(a.Kind, b.Kind),
		cmp.Compare(a.Sym, b.Sym),
		strings.Compare(a.Name, b.Name),
		cmp.Compare(a.Num, b.Num),
		cmp.Compare(len(a.Args), len(b.Args)),
	)
	if first != 0 || len(a.Args) == 0 || level == api.MaxNest {
		return first
	}
	return c.args(a.Args, b.Args, level+1)
}

// args compares lists of the same length, at a level.
func (c *comparison) args(a, b []api.Type, level int) int {
	l := lists{memoryOf(a), memoryOf(b), level}
	if l.a == l.b || c.equal[l] {
		return 0
	}
	for i := range a {
		if order := c.compare(&a[i], &b[i], level); order != 0 {
			return order
		}
	}
	c.remember(l)
	return 0
}

func (c *comparison) remember(l lists) {
	c.steps++
	if c.steps < MaxSize {
		return
	}
	if c.equal == nil {
		c.equal = map[lists]bool{}
	}
	c.equal[l] = true
}
