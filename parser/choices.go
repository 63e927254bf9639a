package parser

import (
	"iter"

	"newel/syntax"
)

// choices are those that rules make, in order, where what stands there can be
// read in several ways. If they turn out to be wrong, the rules are read again
// with other ones.
type choices struct {
	list []choice
	made int
}

// choice is the number of the possibility that is tried, and how many there
// are.
type choice struct{ pick, count int }

// choose returns the number of the possibility that is tried, of so many.
func (r *reader) choose(count int) int {
	if count == 1 {
		return 0
	}
	c := r.choices
	if c.made == len(c.list) {
		c.list = append(c.list, choice{0, count})
	}
	c.made++
	return c.list[c.made-1].pick
}

// advance goes on to the next possibility of the last choice that has one. It
// reports whether there is such a choice.
func (c *choices) advance() bool {
	for c.made = 0; len(c.list) > 0; c.list = c.list[:len(c.list)-1] {
		last := &c.list[len(c.list)-1]
		last.pick++
		if last.pick < last.count {
			return true
		}
	}
	return false
}

// settle makes the choices final that were made when so many had been made.
func (c *choices) settle(made int) {
	for i := made; i < c.made; i++ {
		c.list[i].count = c.list[i].pick + 1
	}
}

// way is a way to read by a rule: the node that it makes, and the index of the
// token behind it.
type way struct {
	node syntax.Node
	next int
}

// ways returns the ways to read by a rule that end at different tokens. The
// reader is behind each of them in turn.
func (r *reader) ways(rule func() syntax.Node) iter.Seq[way] {
	return func(yield func(way) bool) {
		start, ends, own := r.next, map[int]bool{}, &choices{}
		for more := true; more; more = own.advance() {
			outer := r.choices
			r.next, r.choices = start, own
			n, ok := attempt(r, rule)
			r.choices = outer
			if !ok || ends[r.next] {
				continue
			}
			ends[r.next] = true
			if !yield(way{n, r.next}) {
				return
			}
		}
	}
}

// attempt reads by a rule, and reports whether it went on up to its end. If it
// did not, the reader is back where it was.
func attempt[T any](r *reader, rule func() T) (x T, ok bool) {
	next, depth, tooDeep, guardLevel := r.next, r.depth, r.tooDeep, r.guardLevel
	defer func() {
		if !ok {
			recover()
			r.next, r.depth, r.tooDeep, r.guardLevel = next, depth, tooDeep, guardLevel
		}
	}()
	x = rule()
	return x, true
}
