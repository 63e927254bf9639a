package symbols

import (
	"slices"
	"strings"

	"newel/api"
)

const (
	letters   = "abcdefghijklmnopqrstuvwxyzABCDEFGHIJKLMNOPQRSTUVWXYZ_$"
	digits    = "0123456789"
	operators = "+-*/%<>=!&|^~:?"
)

// IsName reports whether a text is a name.
func IsName(s string) bool {
	if s == "" || len(s) > api.MaxName {
		return false
	}
	return consists(s, operators) || consists(s, letters+digits) && !consists(s[:1], digits)
}

// consists reports whether a text has no other bytes than some.
func consists(s, bytes string) bool {
	for i := range len(s) {
		if strings.IndexByte(bytes, s[i]) < 0 {
			return false
		}
	}
	return true
}

// FullName returns the names of the classes around a class and its own one.
func FullName(p api.Program, class int) (string, api.Errno) {
	if !isIndex(class, len(p.Classes)) {
		return "", api.ErrRange
	}
	outer := around(p, class)
	if len(outer) == len(p.Classes) {
		return "", api.ErrCycle
	}
	slices.Reverse(outer)
	var names []string
	for _, i := range append(outer, class) {
		names = append(names, ownName(&p.Classes[i]))
	}
	return strings.Join(names, "."), api.OK
}

// ownName returns the last part of the full name of a class.
func ownName(c *api.Class) string {
	if c.Kind == api.IsObject {
		return c.Name + "#"
	}
	return c.Name
}
