package tests

import (
	"slices"
	"strings"
	"testing"
	"unsafe"

	"loop.example/typedassembly/impl"
)

func TestLimitsOfForms(t *testing.T) {
	if impl.FormMax != 12000 || impl.DepthMax != 60 || impl.TypeMax != 16 {
		t.Errorf("the limits are %d, %d and %d", impl.FormMax, impl.DepthMax, impl.TypeMax)
	}
}

func TestFormValidOfFixedTexts(t *testing.T) {
	for _, form := range fixedForms() {
		if !impl.FormValid(form) {
			t.Errorf("FormValid(%q) does not hold", cut(form))
		}
	}
	for _, text := range fixedFaults() {
		if impl.FormValid(text) {
			t.Errorf("FormValid(%q) holds", cut(text))
		}
	}
}

func TestFormValidAgreesWithTheOracle(t *testing.T) {
	for _, text := range append(sampleTexts(), shortTexts("a( )", 7)...) {
		if impl.FormValid(text) != isForm(text) {
			t.Errorf("FormValid(%q) is %v", cut(text), impl.FormValid(text))
		}
	}
}

func TestFormValidOfEachByte(t *testing.T) {
	const atomBytes = "abcdefghijklmnopqrstuvwxyz0123456789+-*>"
	for b := range 256 {
		s := string([]byte{byte(b)})
		isAtom := strings.Contains(atomBytes, s)
		if impl.FormValid(s) != isAtom {
			t.Errorf("FormValid(%q) is %v", s, !isAtom)
		}
		if impl.FormValid("a"+s) != isAtom || impl.FormValid(s+"a") != isAtom {
			t.Errorf("%q beside a is taken wrongly", s)
		}
		if want := isAtom || s == " "; impl.FormValid("(a"+s+"b)") != want {
			t.Errorf("%q between two atoms is taken wrongly", s)
		}
	}
}

// P1.
func TestFormsHaveMeasures(t *testing.T) {
	for _, form := range sampleForms() {
		if impl.FormSize(form) < 1 || impl.FormDepth(form) < 0 || impl.FormDepth(form) > impl.DepthMax {
			t.Errorf("%q has size %d and depth %d", cut(form), impl.FormSize(form), impl.FormDepth(form))
		}
		if atoms, ok := impl.FormAtoms(form); !ok || len(atoms) == 0 {
			t.Errorf("FormAtoms(%q) fails", cut(form))
		}
		if impl.FormValid(form + ")") {
			t.Errorf("%q is a form with a further parenthesis", cut(form))
		}
	}
}

// P4 and P5, and what both are.
func TestSizeAndDepthAgreeWithTheOracle(t *testing.T) {
	for _, text := range sampleTexts() {
		size, depth := -1, -1
		if isForm(text) {
			size, depth = len(atomsOf(text)), depthOf(text)
		}
		if impl.FormSize(text) != size || impl.FormDepth(text) != depth {
			t.Errorf("%q has size %d and depth %d", cut(text), impl.FormSize(text), impl.FormDepth(text))
		}
	}
}

// P4.
func TestSizeIsAtLeastThatOfTheAtoms(t *testing.T) {
	for _, form := range sampleForms() {
		atoms, _ := impl.FormAtoms(form)
		size := impl.FormSize(form)
		if size < 1 || size > len(form) || size < len(atoms) {
			t.Errorf("%q has size %d and %d different atoms", cut(form), size, len(atoms))
		}
	}
}

// P5.
func TestDepthIsThatOfParentheses(t *testing.T) {
	for _, form := range sampleForms() {
		depth := impl.FormDepth(form)
		if _, ok := impl.FormParts(form); ok == (depth == 0) {
			t.Errorf("%q has depth %d, and FormParts tells %v", cut(form), depth, ok)
		}
		wrapped := "(" + form + ")"
		want := len(wrapped) <= impl.FormMax && depth < impl.DepthMax
		if impl.FormValid(wrapped) != want || want && impl.FormDepth(wrapped) != depth+1 {
			t.Errorf("%q in parentheses has depth %d", cut(form), impl.FormDepth(wrapped))
		}
	}
}

func TestMeasuresAtTheLimits(t *testing.T) {
	full := longForm(impl.FormMax)
	if len(full) != impl.FormMax || impl.FormSize(full) != 5999 || impl.FormDepth(full) != 1 {
		t.Errorf("the longest form has size %d and depth %d", impl.FormSize(full), impl.FormDepth(full))
	}
	if over := longForm(impl.FormMax + 1); impl.FormSize(over) != -1 || impl.FormDepth(over) != -1 {
		t.Error("a form of too many bytes has measures")
	}
	if deep := nested(impl.DepthMax); impl.FormDepth(deep) != impl.DepthMax || impl.FormSize(deep) != 1 {
		t.Errorf("the deepest form has size %d and depth %d", impl.FormSize(deep), impl.FormDepth(deep))
	}
	if over := nested(impl.DepthMax + 1); impl.FormSize(over) != -1 || impl.FormDepth(over) != -1 {
		t.Error("a form of too great a depth has measures")
	}
}

// P2 and P3.
func TestPartsMakeTheForm(t *testing.T) {
	for _, text := range sampleTexts() {
		parts, ok := impl.FormParts(text)
		if want := isForm(text) && text[0] == '('; ok != want {
			t.Errorf("FormParts(%q) tells %v", cut(text), ok)
		}
		if !ok {
			continue
		}
		size, depth := 0, 0
		for _, part := range parts {
			size += impl.FormSize(part)
			depth = max(depth, 1+impl.FormDepth(part))
		}
		if impl.FormSize(text) != size || impl.FormDepth(text) != depth {
			t.Errorf("%q has size %d and depth %d, its parts %d and %d", cut(text), impl.FormSize(text), impl.FormDepth(text), size, depth)
		}
		if made, ok := impl.FormMake(parts); !ok || made != text {
			t.Errorf("FormMake of the parts of %q is %q", cut(text), cut(made))
		}
		noForm := func(part string) bool { return !isForm(part) }
		if "("+strings.Join(parts, " ")+")" != text || slices.ContainsFunc(parts, noForm) {
			t.Errorf("FormParts(%q) is %q", cut(text), parts)
		}
	}
}

func TestFormPartsOfSomeForms(t *testing.T) {
	cases := map[string][]string{
		"(a)":             {"a"},
		"((a))":           {"(a)"},
		"(a b)":           {"a", "b"},
		"(a (b c))":       {"a", "(b c)"},
		"((a b) (c) d)":   {"(a b)", "(c)", "d"},
		"(((a) b) (c d))": {"((a) b)", "(c d)"},
	}
	for form, want := range cases {
		if parts, ok := impl.FormParts(form); !ok || !slices.Equal(parts, want) {
			t.Errorf("FormParts(%q) is %q", form, parts)
		}
	}
	for _, atom := range []string{"a", "i", "az09+-*>", strings.Repeat("a", impl.FormMax)} {
		if parts, ok := impl.FormParts(atom); ok || len(parts) != 0 {
			t.Errorf("FormParts(%q) is %q", cut(atom), parts)
		}
	}
}

// P3.
func TestMadeFormsHaveTheParts(t *testing.T) {
	forms := sampleForms()
	for i, form := range forms {
		parts := []string{form, forms[(7*i+3)%len(forms)], forms[(11*i+5)%len(forms)]}[:1+i%3]
		text := "(" + strings.Join(parts, " ") + ")"
		made, ok := impl.FormMake(parts)
		if ok != isForm(text) || ok && made != text || !ok && made != "" {
			t.Fatalf("FormMake(%q) is %q, %v", parts, cut(made), ok)
		}
		if again, _ := impl.FormParts(made); ok && !slices.Equal(again, parts) {
			t.Errorf("FormParts(%q) is %q", cut(made), again)
		}
	}
}

func TestFormMakeFails(t *testing.T) {
	cases := [][]string{nil, {}, {""}, {"a", ""}, {"", "a"}, {"a b"}, {"a", "b c"}, {"a", " b"}, {"a "}, {"a) (b"}, {"(a", "b)"}, {"()"}, {"A"}, {"a", "\n"}, {nested(impl.DepthMax + 1)}}
	for _, parts := range cases {
		if made, ok := impl.FormMake(parts); ok || made != "" {
			t.Errorf("FormMake(%q) is %q", parts, made)
		}
	}
}

func TestFormMakeAtTheLimits(t *testing.T) {
	if made, ok := impl.FormMake([]string{nested(impl.DepthMax - 1), "b"}); !ok || impl.FormDepth(made) != impl.DepthMax {
		t.Errorf("FormMake to the greatest depth is %q", made)
	}
	if made, ok := impl.FormMake([]string{nested(impl.DepthMax)}); ok || made != "" {
		t.Errorf("FormMake beyond the greatest depth is %q", made)
	}
	last := strings.Repeat("a", impl.FormMax-len("(a )"))
	if made, ok := impl.FormMake([]string{"a", last}); !ok || len(made) != impl.FormMax {
		t.Errorf("FormMake to the most bytes has %d", len(made))
	}
	if made, ok := impl.FormMake([]string{"a", last + "a"}); ok || made != "" {
		t.Errorf("FormMake beyond the most bytes has %d", len(made))
	}
	if made, ok := impl.FormMake(slices.Repeat([]string{longForm(impl.FormMax)}, 5000)); ok || made != "" {
		t.Errorf("FormMake of many long parts has %d bytes", len(made))
	}
}

// P6, and what the atoms are.
func TestFormAtomsAreTheDifferentOnes(t *testing.T) {
	for _, text := range sampleTexts() {
		atoms, ok := impl.FormAtoms(text)
		if !isForm(text) {
			if ok || len(atoms) != 0 {
				t.Errorf("FormAtoms(%q) is %q", cut(text), atoms)
			}
			continue
		}
		if !ok || !slices.Equal(atoms, firstAtoms(atomsOf(text))) {
			t.Errorf("FormAtoms(%q) is %q", cut(text), atoms)
		}
		for i, atom := range atoms {
			if impl.FormDepth(atom) != 0 || slices.Contains(atoms[:i], atom) {
				t.Errorf("FormAtoms(%q) has %q", cut(text), atom)
			}
			if same, ok := impl.FormReplace(text, atom, atom); !ok || same != text {
				t.Errorf("FormReplace(%q, %q, %q) is %q", cut(text), cut(atom), cut(atom), cut(same))
			}
		}
	}
}

func TestFormAtomsOfSomeForms(t *testing.T) {
	cases := map[string][]string{
		"a":                         {"a"},
		"(a a a)":                   {"a"},
		"(b a b (a c) (c (d)) b)":   {"b", "a", "c", "d"},
		"((> i i) > (* i))":         {">", "i", "*"},
		"(a aa (aaa a) aa b)":       {"a", "aa", "aaa", "b"},
		"(fun f x i i (+ x (f x)))": {"fun", "f", "x", "i", "+"},
	}
	for form, want := range cases {
		if atoms, ok := impl.FormAtoms(form); !ok || !slices.Equal(atoms, want) {
			t.Errorf("FormAtoms(%q) is %q", form, atoms)
		}
	}
}

// P7, and what the result is.
func TestFormReplaceOfSamples(t *testing.T) {
	atoms := []string{"a", "i", ">", "b", "fun", "zz"}
	others := []string{"a", "(a)", "i", "(b (a c))", "zz", "(* i i)", nested(5)}
	for i, form := range sampleForms() {
		atom, by := atoms[i%len(atoms)], others[i%len(others)]
		want := replaced(form, atom, by)
		got, ok := impl.FormReplace(form, atom, by)
		if ok != isForm(want) || ok && got != want || !ok && got != "" {
			t.Errorf("FormReplace(%q, %q, %q) is %q, %v", cut(form), atom, by, cut(got), ok)
		}
		if !ok {
			continue
		}
		was, is := slices.Contains(atomsOf(form), atom), slices.Contains(atomsOf(by), atom)
		after, _ := impl.FormAtoms(got)
		if slices.Contains(after, atom) != (was && is) || !was && got != form {
			t.Errorf("FormReplace(%q, %q, %q) is %q", cut(form), atom, by, cut(got))
		}
	}
}

func TestFormReplaceOfSomeForms(t *testing.T) {
	cases := [][4]string{
		{"a", "a", "b", "b"},
		{"a", "a", "(b c)", "(b c)"},
		{"a", "a", "a", "a"},
		{"a", "b", "c", "a"},
		{"aa", "a", "b", "aa"},
		{"(a aa (aaa a))", "a", "b", "(b aa (aaa b))"},
		{"(a (b a))", "a", "(c)", "((c) (b (c)))"},
		{"(a (b a))", "a", "(a a)", "((a a) (b (a a)))"},
		{"(a (b c))", "d", "(c)", "(a (b c))"},
		{"(> i (> i i))", "i", "(* i i)", "(> (* i i) (> (* i i) (* i i)))"},
	}
	for _, c := range cases {
		if got, ok := impl.FormReplace(c[0], c[1], c[2]); !ok || got != c[3] {
			t.Errorf("FormReplace(%q, %q, %q) is %q, %v", c[0], c[1], c[2], got, ok)
		}
	}
}

func TestFormReplaceFails(t *testing.T) {
	for _, text := range fixedFaults() {
		if got, ok := impl.FormReplace(text, "a", "b"); ok || got != "" {
			t.Errorf("FormReplace(%q, a, b) is %q", cut(text), cut(got))
		}
		if got, ok := impl.FormReplace("(a b)", text, "b"); ok || got != "" {
			t.Errorf("FormReplace((a b), %q, b) is %q", cut(text), cut(got))
		}
		for _, form := range []string{"(a b)", "b"} {
			if got, ok := impl.FormReplace(form, "a", text); ok || got != "" {
				t.Errorf("FormReplace(%s, a, %q) is %q", form, cut(text), cut(got))
			}
		}
	}
	for _, list := range []string{"(a)", "(a b)", "((a))"} {
		if got, ok := impl.FormReplace("((a) (a b))", list, "c"); ok || got != "" {
			t.Errorf("FormReplace of %q is %q", list, got)
		}
	}
}

func TestFormReplaceAtTheLimits(t *testing.T) {
	deep := nested(impl.DepthMax - 2)
	if got, ok := impl.FormReplace(deep, "a", "((b))"); !ok || impl.FormDepth(got) != impl.DepthMax {
		t.Errorf("FormReplace to the greatest depth is %q", got)
	}
	if got, ok := impl.FormReplace(deep, "a", "(((b)))"); ok || got != "" {
		t.Errorf("FormReplace beyond the greatest depth is %q", got)
	}
	if got, ok := impl.FormReplace(deep, "b", nested(impl.DepthMax)); !ok || got != deep {
		t.Errorf("FormReplace of no atom by a deep form is %q", got)
	}
	long := strings.Repeat("a", impl.FormMax/2-2)
	if got, ok := impl.FormReplace("(b b)", "b", long); !ok || len(got) != impl.FormMax-1 {
		t.Errorf("FormReplace to many bytes has %d", len(got))
	}
	if got, ok := impl.FormReplace("(b bb)", "bb", strings.Repeat("a", impl.FormMax-4)); !ok || len(got) != impl.FormMax {
		t.Errorf("FormReplace to the most bytes has %d", len(got))
	}
	if got, ok := impl.FormReplace("(b bb)", "bb", strings.Repeat("a", impl.FormMax-3)); ok || got != "" {
		t.Errorf("FormReplace beyond the most bytes has %d", len(got))
	}
	full := longForm(impl.FormMax)
	if got, ok := impl.FormReplace(full, "a", full); ok || got != "" {
		t.Errorf("FormReplace far beyond the most bytes has %d", len(got))
	}
	if got, ok := impl.FormReplace(full, strings.Repeat("b", impl.FormMax), full); !ok || got != full {
		t.Errorf("FormReplace of a long atom has %d bytes", len(got))
	}
}

func TestFormArgumentsAndResultsAreApart(t *testing.T) {
	room := []string{"a", "(b c)", "kept", "kept too"}
	if made, ok := impl.FormMake(room[:2]); !ok || made != "(a (b c))" {
		t.Errorf("FormMake is %q", made)
	}
	if !slices.Equal(room, []string{"a", "(b c)", "kept", "kept too"}) {
		t.Errorf("FormMake made its argument %q", room)
	}
	for _, list := range []func(string) ([]string, bool){impl.FormParts, impl.FormAtoms} {
		first, _ := list("(a b c)")
		second, _ := list("(a b c)")
		for i := range first {
			first[i] = "z"
		}
		_ = append(first[:0], "y", "y", "y")
		if third, _ := list("(a b c)"); !slices.Equal(second, []string{"a", "b", "c"}) || !slices.Equal(third, second) {
			t.Errorf("a result that was changed changes others: %q, %q", second, third)
		}
	}
}

// overlaps tells whether two texts share bytes of memory.
func overlaps(a string, b string) bool {
	first, second := uintptr(unsafe.Pointer(unsafe.StringData(a))), uintptr(unsafe.Pointer(unsafe.StringData(b)))
	return first < second+uintptr(len(b)) && second < first+uintptr(len(a))
}

func TestResultsAreNewTexts(t *testing.T) {
	form := strings.Clone("(> (* i i) (> i i))")
	results, _ := impl.FormParts(form)
	atoms, _ := impl.FormAtoms(form)
	same, _ := impl.FormReplace(form, "zz", "a")
	made, _ := impl.FormMake([]string{form})
	first, second, _ := impl.TypeFun(form)
	results = append(append(results, atoms...), same, made, first, second)
	if len(results) != 10 {
		t.Fatalf("the results are %q", results)
	}
	for i, result := range results {
		if overlaps(form, result) {
			t.Errorf("%q shares memory with the form", result)
		}
		for _, other := range results[:i] {
			if len(result) > 1 && overlaps(other, result) {
				t.Errorf("%q shares memory with %q", result, other)
			}
		}
	}
}
