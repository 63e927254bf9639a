package syntax

import "strings"

const maxMany = 200 // how often a word of a form may be repeated

// fits reports whether kids have a form. A form consists of words, each of
// which stands for one kid: of one of the classes between which | stands, or,
// with ? at the end, for none (SNone). One word may end with * or +: it is
// repeated, with + at least once; if it has commas, its parts take turns.
func fits(kids []Node, form string) bool {
	words := strings.Fields(form)
	others := len(words) - 1
	repeats := len(kids) - others
	for _, word := range words {
		count := 1
		parts := strings.Split(strings.TrimRight(word, "*+"), ",")
		switch word[len(word)-1] {
		case '*':
			count = repeats
		case '+':
			count = max(repeats, 1)
		}
		if count < 0 || count > len(kids) || count%len(parts) != 0 || count/len(parts) > maxMany {
			return false
		}
		for i, k := range kids[:count] {
			if !belongs(k.Kind, parts[i%len(parts)]) {
				return false
			}
		}
		kids = kids[count:]
	}
	return len(kids) == 0
}

// belongs reports whether a kind belongs to one of the classes of a word.
func belongs(kind int, word string) bool {
	classes := strings.TrimSuffix(word, "?")
	if classes != word && kind == SNone {
		return true
	}
	for _, class := range strings.Split(classes, "|") {
		if inClass(kind, class) {
			return true
		}
	}
	return false
}

// inClass reports whether a kind belongs to a class: a letter for definitions,
// expressions, patterns, statements or types, or the name of one kind.
func inClass(kind int, class string) bool {
	switch class {
	case "D":
		return kind >= SImport && kind <= SEnumCase
	case "E":
		return strings.HasPrefix(Name(kind), "X") && kind != XNamed
	case "P":
		return strings.HasPrefix(Name(kind), "P")
	case "S":
		return inClass(kind, "D") || inClass(kind, "E")
	case "T":
		return strings.HasPrefix(Name(kind), "T") && kind != TCase
	}
	return Name(kind) == class
}
