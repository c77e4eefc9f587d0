package impl

import (
	"slices"
	"strings"
)

// FormMax is the greatest number of bytes of a form.
const FormMax = 12000

// DepthMax is the greatest depth of a form.
const DepthMax = 60

// TypeMax is the greatest number of atoms of a type.
const TypeMax = 16

// form is an atom, or a list of parts. It keeps its measures, so that a
// result that is too large is refused before any of it is written.
type form struct {
	atom  string
	parts []form
	bytes int
	size  int
	depth int
}

func newAtom(atom string) form {
	return form{atom: atom, bytes: len(atom), size: 1}
}

func newList(parts []form) form {
	list := form{parts: parts, bytes: len(")")}
	for _, part := range parts {
		// Each part has one byte ahead: a parenthesis or a space.
		list.bytes += 1 + part.bytes
		list.size += part.size
		list.depth = max(list.depth, 1+part.depth)
	}
	return list
}

func (f form) equals(other form) bool {
	return f.atom == other.atom && slices.EqualFunc(f.parts, other.parts, form.equals)
}

func (f form) isAtom() bool {
	return len(f.parts) == 0
}

func (f form) inLimits() bool {
	return f.bytes <= FormMax && f.depth <= DepthMax
}

// isType ignores TypeMax, so that it can ask itself about parts.
func (f form) isType() bool {
	if f.isAtom() {
		return f.atom == "i"
	}
	return f.isTypeWith(">") || f.isTypeWith("*")
}

func (f form) isTypeWith(head string) bool {
	return len(f.parts) == 3 && f.parts[0].atom == head && f.parts[1].isType() && f.parts[2].isType()
}

func (f form) isTypeInLimit() bool {
	return f.size <= TypeMax && f.isType()
}

// sides are the types A and B of a type with a head.
func (f form) sides(head string) (form, form, bool) {
	if !f.isTypeWith(head) {
		return form{}, form{}, false
	}
	return f.parts[1], f.parts[2], true
}

func (f form) order() int {
	if f.isAtom() {
		return 0
	}
	first, second := f.parts[1].order(), f.parts[2].order()
	if f.parts[0].atom == ">" {
		first++
	}
	return max(first, second)
}

func (f form) replace(atom string, by form) form {
	if f.isAtom() {
		if f.atom == atom {
			return by
		}
		return f
	}
	parts := make([]form, 0, len(f.parts))
	for _, part := range f.parts {
		parts = append(parts, part.replace(atom, by))
	}
	return newList(parts)
}

func (f form) write(out *strings.Builder) {
	if f.isAtom() {
		out.WriteString(f.atom)
		return
	}
	ahead := byte('(')
	for _, part := range f.parts {
		out.WriteByte(ahead)
		part.write(out)
		ahead = ' '
	}
	out.WriteByte(')')
}

func (f form) text() string {
	var out strings.Builder
	out.Grow(f.bytes)
	f.write(&out)
	return out.String()
}

// reader reads a text from the byte with an index on.
type reader struct {
	text string
	at   int
}

func (r *reader) take(b byte) bool {
	if r.at == len(r.text) || r.text[r.at] != b {
		return false
	}
	r.at++
	return true
}

// form reads a form of at most some depth: the bound also keeps the recursion
// short for texts with too many parentheses.
func (r *reader) form(depth int) (form, bool) {
	if r.take('(') {
		return r.list(depth)
	}
	return r.atom()
}

func (r *reader) list(depth int) (form, bool) {
	if depth == 0 {
		return form{}, false
	}
	var parts []form
	for {
		part, ok := r.form(depth - 1)
		if !ok {
			return form{}, false
		}
		parts = append(parts, part)
		if r.take(')') {
			return newList(parts), true
		}
		if !r.take(' ') {
			return form{}, false
		}
	}
}

func (r *reader) atom() (form, bool) {
	start := r.at
	for r.at < len(r.text) && isAtomByte(r.text[r.at]) {
		r.at++
	}
	if r.at == start {
		return form{}, false
	}
	return newAtom(r.text[start:r.at]), true
}

func isAtomByte(b byte) bool {
	switch b {
	case '+', '-', '*', '>':
		return true
	}
	return 'a' <= b && b <= 'z' || '0' <= b && b <= '9'
}

func readForm(s string) (form, bool) {
	if len(s) > FormMax {
		return form{}, false
	}
	r := reader{text: s}
	f, ok := r.form(DepthMax)
	if !ok || r.at < len(s) {
		return form{}, false
	}
	return f, true
}

func readType(s string) (form, bool) {
	f, ok := readForm(s)
	if !ok || !f.isTypeInLimit() {
		return form{}, false
	}
	return f, true
}

// typeSides is what TypeFun and TypePair return, each with its head.
func typeSides(s string, head string) (string, string, bool) {
	f, ok := readType(s)
	if !ok {
		return "", "", false
	}
	first, second, ok := f.sides(head)
	if !ok {
		return "", "", false
	}
	return first.text(), second.text(), true
}

// makeType is the type with a head and two types as its sides.
func makeType(head string, first form, second form) (form, bool) {
	made := newList([]form{newAtom(head), first, second})
	return made, made.size <= TypeMax
}

// FormValid reports whether a text is a form.
func FormValid(s string) bool {
	_, ok := readForm(s)
	return ok
}

// FormParts returns the parts of a form that is no atom, and true.
func FormParts(s string) ([]string, bool) {
	f, ok := readForm(s)
	if !ok || f.isAtom() {
		return nil, false
	}
	parts := make([]string, 0, len(f.parts))
	for _, part := range f.parts {
		parts = append(parts, part.text())
	}
	return parts, true
}

// FormMake returns the form with some parts, and true.
func FormMake(parts []string) (string, bool) {
	if len(parts) == 0 {
		return "", false
	}
	var forms []form
	room := FormMax - len(")")
	for _, part := range parts {
		// Asked ahead of the reading, so that many long parts take no memory.
		room -= 1 + len(part)
		if room < 0 {
			return "", false
		}
		f, ok := readForm(part)
		if !ok {
			return "", false
		}
		forms = append(forms, f)
	}
	list := newList(forms)
	if !list.inLimits() {
		return "", false
	}
	return list.text(), true
}

// FormSize returns the size of a form, or -1 if the text is none.
func FormSize(s string) int {
	f, ok := readForm(s)
	if !ok {
		return -1
	}
	return f.size
}

// FormDepth returns the depth of a form, or -1 if the text is none.
func FormDepth(s string) int {
	f, ok := readForm(s)
	if !ok {
		return -1
	}
	return f.depth
}

// FormAtoms returns the different atoms of a form in the order in which each one stands first, and true.
func FormAtoms(s string) ([]string, bool) {
	f, ok := readForm(s)
	if !ok {
		return nil, false
	}
	return f.addAtoms(nil, map[string]bool{}), true
}

func (f form) addAtoms(atoms []string, seen map[string]bool) []string {
	if f.isAtom() {
		if seen[f.atom] {
			return atoms
		}
		seen[f.atom] = true
		return append(atoms, f.text())
	}
	for _, part := range f.parts {
		atoms = part.addAtoms(atoms, seen)
	}
	return atoms
}

// FormReplace returns the form with each atom that is equal to a text replaced by another form, and true.
func FormReplace(s string, atom string, by string) (string, bool) {
	f, ok := readForm(s)
	if !ok {
		return "", false
	}
	a, ok := readForm(atom)
	if !ok || !a.isAtom() {
		return "", false
	}
	b, ok := readForm(by)
	if !ok {
		return "", false
	}
	result := f.replace(a.atom, b)
	if !result.inLimits() {
		return "", false
	}
	return result.text(), true
}

// TypeValid reports whether a text is a type.
func TypeValid(s string) bool {
	_, ok := readType(s)
	return ok
}

// TypeFun returns both types A and B of a type of functions, and true.
func TypeFun(s string) (string, string, bool) {
	return typeSides(s, ">")
}

// TypePair returns both types A and B of a type of pairs, and true.
func TypePair(s string) (string, string, bool) {
	return typeSides(s, "*")
}

// TypeOrder returns the order of a type, or -1 if the text is none.
func TypeOrder(s string) int {
	f, ok := readType(s)
	if !ok {
		return -1
	}
	return f.order()
}

// TypeMake returns the type of functions from a type A to a type B, for a mark that is true, and otherwise that of pairs of both, and true.
func TypeMake(fun bool, a string, b string) (string, bool) {
	first, ok := readType(a)
	if !ok {
		return "", false
	}
	second, ok := readType(b)
	if !ok {
		return "", false
	}
	head := "*"
	if fun {
		head = ">"
	}
	made, ok := makeType(head, first, second)
	if !ok {
		return "", false
	}
	return made.text(), true
}
