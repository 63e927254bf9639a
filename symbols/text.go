package symbols

import (
	"strconv"
	"strings"

	"newel/api"
)

// writer writes lines.
type writer struct{ strings.Builder }

// line writes a line of parts with blanks between.
func (w *writer) line(parts ...string) {
	w.WriteString(strings.Join(parts, " "))
	w.WriteByte('\n')
}

// member writes the line of a member of a class.
func (w *writer) member(parts ...string) {
	w.WriteString("  ")
	w.line(parts...)
}

// Text returns the canonical text of the declarations of a program.
func Text(p api.Program) (string, api.Errno) {
	if f := Check(p); f.Code != api.OK {
		return "", f.Code
	}
	var w writer
	for i := range p.Classes {
		w.line(header(p, i)...)
		w.members(p, &p.Classes[i])
	}
	for i := range p.Methods {
		if p.Methods[i].Owner == -1 {
			w.line(methodParts(&p.Methods[i])...)
		}
	}
	if w.Len() > api.MaxText {
		return "", api.ErrLimit
	}
	return w.String(), api.OK
}

// header returns the parts of the line of a class.
func header(p api.Program, class int) []string {
	words := [api.ClassKinds]string{api.IsClass: "class", api.IsTrait: "trait", api.IsObject: "object"}
	c := &p.Classes[class]
	name, _ := FullName(p, class)
	parts := []string{words[c.Kind], name, strconv.Itoa(c.Flags)}
	for _, i := range c.TParams {
		parts = append(parts, sign(p.TParams[i].Variance)+p.TParams[i].Name)
	}
	return parts
}

// sign returns what stands in front of a type parameter with a variance.
func sign(variance int) string {
	switch variance {
	case api.Covariant:
		return "+"
	case api.Contravariant:
		return "-"
	}
	return ""
}

// members writes the lines of the members of a class.
func (w *writer) members(p api.Program, c *api.Class) {
	for _, i := range c.Fields {
		w.member("field", p.Fields[i].Name, strconv.Itoa(p.Fields[i].Flags))
	}
	for _, i := range c.Methods {
		w.member(methodParts(&p.Methods[i])...)
	}
	for _, i := range c.Types {
		w.member("type", p.Types[i].Name)
	}
}

// methodParts returns the parts of the line of a method.
func methodParts(m *api.Method) []string {
	return []string{"method", m.Name, strconv.Itoa(m.Flags), strconv.Itoa(m.Params)}
}
