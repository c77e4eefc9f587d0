package tests

import (
	"math/rand"
	"regexp"
	"strings"
	"testing"

	"loop.example/typedassembly/impl"
)

// nested is an atom in as many parentheses as a number tells.
func nested(depth int) string {
	return strings.Repeat("(", depth) + "a" + strings.Repeat(")", depth)
}

// longForm is a form with parts, of just as many bytes, at least 5.
func longForm(bytes int) string {
	rest := bytes - len("(a)")
	last := "a"
	if rest%2 == 1 {
		last, rest = "aa", rest-1
	}
	return "(" + strings.Repeat("a ", rest/2) + last + ")"
}

// fixedForms are forms at the edges of what a form is.
func fixedForms() []string {
	return []string{
		"a", "z", "0", "9", "+", "-", "*", ">", "i", "az09+-*>", "->", "00",
		"(a)", "((a))", "(a b)", "(a a)", "((a) (a))", "(a (b c))", "(a (b a))", "((a b) c)",
		"(+ 1 -2)", "(fun f x i i (call f x))", "(b a b (a c) (c (d)))",
		nested(impl.DepthMax - 1), nested(impl.DepthMax), "(b " + nested(impl.DepthMax-1) + ")",
		strings.Repeat("a", impl.FormMax), longForm(impl.FormMax), longForm(impl.FormMax - 1),
	}
}

// fixedFaults are texts that are no forms, each by one fault.
func fixedFaults() []string {
	faults := []string{
		"", " ", "  ", "()", "( )", "(  )", "(())", "(a ())", "(() a)", "a()",
		"(a  b)", "(a   b)", "((a)  (b))", "(a  (b))",
		" a", " (a)", "a ", "(a) ", "( a)", "(a )", "( a b)", "(a b )", "(a (b ))", "(a ( b))",
		"(a(b))", "((a)b)", "((a)(b))", "(a b(c))",
		"(", ")", "(a", "a)", "((a)", "(a))", "(a b", "(a (b)", "(a) b)", "((a) b))", ")(", ")a(", "(a))(b)",
		"a b", "(a) b", "(a) (b)", "a (b)", "(a)b", "(a)(b)", "a(b)",
		"A", "(A)", "(a B)", "aBc", "(a\tb)", "(a\nb)", "a\n", "(a)\n", "\na", "(a\r\nb)", "a\x00", "\x00", "(a \x00)", "(a\x00b)",
		"é", "(a é)", "\xff", "(\xff)", "a\x80", "(a\u00a0b)", "_", "a_b", "a.b", "(a,b)", "/", ":", "`", "{", "<", "=", "[a]", "'a",
		nested(impl.DepthMax + 1), "(b " + nested(impl.DepthMax) + ")",
		strings.Repeat("a", impl.FormMax+1), longForm(impl.FormMax + 1), longForm(impl.FormMax + 2),
		strings.Repeat("(", impl.FormMax), strings.Repeat("(", 100*impl.FormMax),
	}
	return faults
}

// shortTexts are all texts of at most some bytes of an alphabet.
func shortTexts(alphabet string, bytes int) []string {
	texts := []string{""}
	last := texts
	for range bytes {
		var next []string
		for _, text := range last {
			for i := range len(alphabet) {
				next = append(next, text+alphabet[i:i+1])
			}
		}
		texts = append(texts, next...)
		last = next
	}
	return texts
}

// randomForm is a form of at most some depth.
func randomForm(r *rand.Rand, depth int) string {
	atoms := []string{"i", ">", "*", "a", "b", "a0", "x12", "-1", "fun", "+"}
	if depth == 0 || r.Intn(3) == 0 {
		return atoms[r.Intn(len(atoms))]
	}
	var parts []string
	for range 1 + r.Intn(4) {
		parts = append(parts, randomForm(r, depth-1))
	}
	return "(" + strings.Join(parts, " ") + ")"
}

// randomType is a type, or what would be one but for TypeMax.
func randomType(r *rand.Rand, depth int) string {
	if depth == 0 || r.Intn(4) == 0 {
		return "i"
	}
	head := []string{">", "*"}[r.Intn(2)]
	return "(" + head + " " + randomType(r, depth-1) + " " + randomType(r, depth-1) + ")"
}

// spoiled is a text with one byte left out, put in or changed.
func spoiled(r *rand.Rand, text string) string {
	const bytes = "a()i> *A\x00"
	at := r.Intn(len(text))
	b := bytes[r.Intn(len(bytes)):][:1]
	switch r.Intn(3) {
	case 0:
		return text[:at] + text[at+1:]
	case 1:
		return text[:at] + b + text[at:]
	}
	return text[:at] + b + text[at+1:]
}

// sampleTexts are forms and other texts: the fixed ones, all short ones, and random ones, the same in each run.
func sampleTexts() []string {
	texts := append(fixedForms(), fixedFaults()...)
	texts = append(texts, shortTexts("a>( )", 5)...)
	r := rand.New(rand.NewSource(1))
	for range 1500 {
		form := randomForm(r, 4)
		kind := randomType(r, 4)
		texts = append(texts, form, kind, spoiled(r, form), spoiled(r, kind))
	}
	return texts
}

// sampleForms are those of the sample texts that the oracle takes for forms.
func sampleForms() []string {
	var forms []string
	for _, text := range sampleTexts() {
		if isForm(text) {
			forms = append(forms, text)
		}
	}
	return forms
}

var (
	atomPattern = regexp.MustCompile(`[a-z0-9+*>-]+`)
	listPattern = regexp.MustCompile(`\(a( a)*\)`)
)

// isForm tells what a form is by another way than reading it: it makes all atoms one letter, and then lists of atoms atoms.
func isForm(text string) bool {
	if len(text) > impl.FormMax || strings.Contains(text, strings.Repeat("(", impl.DepthMax+1)) {
		return false
	}
	text = atomPattern.ReplaceAllString(text, "a")
	for range impl.DepthMax {
		if text == "a" {
			return true
		}
		text = replaceLists(text)
	}
	return text == "a"
}

// replaceLists makes lists of atoms atoms, if what is then beside them would be no part of the same atom.
func replaceLists(text string) string {
	var out strings.Builder
	at := 0
	for _, span := range listPattern.FindAllStringIndex(text, -1) {
		ahead := span[0] == 0 || strings.Contains("( ", text[span[0]-1:span[0]])
		behind := span[1] == len(text) || strings.Contains(") ", text[span[1]:span[1]+1])
		if ahead && behind {
			out.WriteString(text[at:span[0]] + "a")
			at = span[1]
		}
	}
	return out.String() + text[at:]
}

// atomsOf are all atoms of a form, in order.
func atomsOf(form string) []string {
	return atomPattern.FindAllString(form, -1)
}

// depthOf is the depth of a form: the most parentheses that are open at once.
func depthOf(form string) int {
	open, most := 0, 0
	for i := range len(form) {
		switch form[i] {
		case '(':
			open++
			most = max(most, open)
		case ')':
			open--
		}
	}
	return most
}

// firstAtoms are the different ones of some atoms, in the order in which each one stands first.
func firstAtoms(atoms []string) []string {
	var first []string
	seen := map[string]bool{}
	for _, atom := range atoms {
		if !seen[atom] {
			seen[atom] = true
			first = append(first, atom)
		}
	}
	return first
}

// replaced is a form with an atom replaced.
func replaced(form string, atom string, by string) string {
	return atomPattern.ReplaceAllStringFunc(form, func(found string) string {
		if found == atom {
			return by
		}
		return found
	})
}

// cut is a text that is short enough for a message.
func cut(text string) string {
	if len(text) > 200 {
		return text[:200] + "..."
	}
	return text
}

func TestOracleKnowsTheFixedTexts(t *testing.T) {
	for _, form := range fixedForms() {
		if !isForm(form) {
			t.Errorf("the oracle does not take %q for a form", cut(form))
		}
	}
	for _, text := range fixedFaults() {
		if isForm(text) {
			t.Errorf("the oracle takes %q for a form", cut(text))
		}
	}
}
