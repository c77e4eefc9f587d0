package tests

import (
	"maps"
	"math/rand"
	"slices"
	"strings"
	"testing"

	"loop.example/typedassembly/impl"
)

// checkPut checks what TargetPut returns, which fails if it is "".
func checkPut(t *testing.T, text string, by string, want string) {
	t.Helper()
	if got, ok := impl.TargetPut(text, by); ok != (want != "") || got != want {
		t.Errorf("TargetPut(%q, %q) is %q, %v, not %q", cut(text), cut(by), cut(got), ok, cut(want))
	}
}

func TestTargetValidOfFixedTexts(t *testing.T) {
	for _, text := range fixedTargets() {
		if !impl.TargetValid(text) {
			t.Errorf("TargetValid(%q) does not hold", cut(text))
		}
	}
	for _, text := range slices.Concat(noTargets(), openOnly(), openWithV()) {
		if impl.TargetValid(text) {
			t.Errorf("TargetValid(%q) holds", cut(text))
		}
	}
}

func TestTargetValidAgreesWithTheOracle(t *testing.T) {
	valid := 0
	for _, text := range append(sampleTargetTexts(), shortTexts("tev() ", 6)...) {
		if impl.TargetValid(text) != isTarget(text) {
			t.Errorf("TargetValid(%q) is %v", cut(text), impl.TargetValid(text))
		}
		if isTarget(text) {
			valid++
		}
	}
	if valid < 1000 {
		t.Errorf("%d of the samples are target types", valid)
	}
}

// Each v is that of the innermost package that it stands in.
func TestTargetsOfPackagesWithinPackages(t *testing.T) {
	inner := []string{"(e v)", "(e (t v i))", "(e (t (c v) v))", "(e (e v))", "(e i)", "(e (t (e (t v (e v))) v))"}
	for _, a := range inner {
		for _, around := range []string{"(e #)", "(e (t # v))", "(e (t v #))", "(e (c # # i))", "(t # #)", "(c i #)", "(e (e (e #)))", "(e (t (e (t # v)) v))", "(t (e (t # v)) #)"} {
			text := strings.ReplaceAll(around, "#", a)
			if !impl.TargetValid(text) {
				t.Errorf("TargetValid(%q) does not hold", text)
			}
			for _, by := range []string{"i", "a0", "(t i a3)", "(e v)", text} {
				checkPut(t, text, by, text)
				checkPut(t, "(t v "+text+")", by, "(t "+by+" "+text+")")
				checkPut(t, "(t "+text+" (c v "+text+" v))", by, "(t "+text+" (c "+by+" "+text+" "+by+"))")
				checkPut(t, "(e (t v "+text+"))", by, "(e (t v "+text+"))")
			}
			for _, outside := range []string{"(t v " + text + ")", "(t " + text + " v)", "(c (t " + text + " v))"} {
				if impl.TargetValid(outside) || !impl.TargetValid("(e "+outside+")") {
					t.Errorf("%q is a target type: %v, and as a package: %v", outside, impl.TargetValid(outside), impl.TargetValid("(e "+outside+")"))
				}
			}
		}
	}
}

func TestTargetPutOfSomeTypes(t *testing.T) {
	cases := [][3]string{
		{"v", "i", "i"},
		{"v", "a0", "a0"},
		{"v", "(e v)", "(e v)"},
		{"v", "(t (e (t v v)) a12)", "(t (e (t v v)) a12)"},
		{"i", "(t)", "i"},
		{"a0", "i", "a0"},
		{"a0", "a0", "a0"},
		{"(t)", "i", "(t)"},
		{"(c)", "a0", "(c)"},
		{"(t v)", "i", "(t i)"},
		{"(c v v)", "(t)", "(c (t) (t))"},
		{"(t v i v a0)", "a1", "(t a1 i a1 a0)"},
		{"(t (t v) (c (t v i)) i)", "(c i)", "(t (t (c i)) (c (t (c i) i)) i)"},
		{"(e v)", "i", "(e v)"},
		{"(e (t v i))", "a0", "(e (t v i))"},
		{"(t v (e v))", "i", "(t i (e v))"},
		{"(t (e v) v)", "i", "(t (e v) i)"},
		{"(t (e (t v (e v))) v (e v) v)", "a0", "(t (e (t v (e v))) a0 (e v) a0)"},
		{"(c v i (e (t (c v i) v)))", "(t a0)", "(c (t a0) i (e (t (c v i) v)))"},
		{"(t (c v i (e (t (c v i) v))) v)", "a12", "(t (c a12 i (e (t (c v i) v))) a12)"},
		{"(t v v)", "(t (e v) (e (t v)))", "(t (t (e v) (e (t v))) (t (e v) (e (t v))))"},
		{"(t (e (t a0 v)) v)", "a0", "(t (e (t a0 v)) a0)"},
		{"(t v a10)", "(e (t a10 v))", "(t (e (t a10 v)) a10)"},
	}
	for _, c := range cases {
		checkPut(t, c[0], c[1], c[2])
	}
}

// P50 and P51, and what the result is.
func TestTargetPutOfSamples(t *testing.T) {
	others := slices.Concat(openOnly(), fixedTargets(), noTargets(), openWithV())
	texts := sampleTargetTexts()
	puts := 0
	for k, text := range texts {
		for _, by := range []string{"i", "(e (t a0 v))", others[k%len(others)], texts[(7*k+5)%len(texts)]} {
			want := ""
			if isOpenWithV(text) && isOpen(by) {
				want = withHidden(text, by)
			}
			if !isForm(want) {
				want = ""
			}
			checkPut(t, text, by, want)
			if want == "" {
				continue
			}
			puts++
			checkPut(t, want, "i", want)
			checkPut(t, want, "(t (e v) a7)", want)
			checkPut(t, "v", by, by)
			if impl.TargetValid(text) && want != text {
				t.Errorf("TargetPut changes the target type %q to %q", cut(text), cut(want))
			}
		}
	}
	if puts < 5000 {
		t.Errorf("%d of the samples have a type put", puts)
	}
}

// P50.
func TestTargetsWithinOthers(t *testing.T) {
	for _, text := range sampleTargetTexts() {
		if !isTarget(text) {
			continue
		}
		for _, around := range []string{"(t #)", "(c #)", "(e #)", "(t i # (e v))", "(c # i)", "(e (t v #))"} {
			whole := strings.Replace(around, "#", text, 1)
			if impl.TargetValid(whole) != isForm(whole) {
				t.Errorf("TargetValid(%q) is %v", cut(whole), impl.TargetValid(whole))
			}
		}
	}
}

func TestTargetPutFails(t *testing.T) {
	for _, text := range noTargets() {
		checkPut(t, text, "i", "")
		checkPut(t, text, "a0", "")
		checkPut(t, "v", text, "")
		checkPut(t, "(t v v)", text, "")
		checkPut(t, "i", text, "")
		checkPut(t, "(e v)", text, "")
		checkPut(t, text, text, "")
	}
	for _, text := range openWithV() {
		checkPut(t, "v", text, "")
		checkPut(t, "i", text, "")
		checkPut(t, "(e (t v))", text, "")
		checkPut(t, text, text, "")
	}
	for _, text := range []string{"(t v x)", "(t x v)", "(t v (e))", "(c v (e v v))", "(t v a01)", "(t v a)", "(t v (i))", "(x v)", "(v)", "(v v)", "(t v"} {
		checkPut(t, text, "i", "")
	}
}

func TestTargetPutAtTheLimits(t *testing.T) {
	// The bytes of target types are odd, those of a0 are even.
	room := impl.FormMax - len("(t  )")
	full := longTarget(room - len("a0") + 1)
	checkPut(t, "(t v "+longTarget(room-3)+")", "a00", "")
	checkPut(t, "(t v "+full+")", "a0", "(t a0 "+full+")")
	checkPut(t, "(t v "+full+")", "a10", "")
	checkPut(t, "(t v "+full+")", "i", "(t i "+full+")")
	checkPut(t, "(t v "+full+")", "(t)", "")
	checkPut(t, "v", longTarget(impl.FormMax-1), longTarget(impl.FormMax-1))
	checkPut(t, "v", longTarget(impl.FormMax+1), "")
	checkPut(t, "(t v)", longTarget(impl.FormMax-5), "(t "+longTarget(impl.FormMax-5)+")")
	checkPut(t, "(t v)", longTarget(impl.FormMax-3), "")
	checkPut(t, "(t v)", "(t a0 "+longTarget(impl.FormMax-11)+")", "(t (t a0 "+longTarget(impl.FormMax-11)+"))")
	checkPut(t, "(t v)", "(t a10 "+longTarget(impl.FormMax-11)+")", "")
	checkPut(t, "(e (t v))", longTarget(impl.FormMax-1), "(e (t v))")
	checkPut(t, longTarget(impl.FormMax-1), longTarget(impl.FormMax-1), longTarget(impl.FormMax-1))
	many := "(t" + strings.Repeat(" v", 5998) + ")"
	checkPut(t, many, "i", longTarget(impl.FormMax-1))
	checkPut(t, many, "a0", "")
	checkPut(t, many, longTarget(impl.FormMax-1), "")
	checkPut(t, many, many, "")
	for depth := range impl.DepthMax + 1 {
		rest := impl.DepthMax - depth
		checkPut(t, inTuples(depth, "v"), inTuples(rest, "a0"), inTuples(impl.DepthMax, "a0"))
		checkPut(t, "(t (e v) "+inTuples(depth, "v")+")", inTuples(rest, "i"), "")
		if depth > 0 {
			checkPut(t, inTuples(depth, "v"), inTuples(rest, "(e v)"), "")
			checkPut(t, inTuples(depth, "v"), "(c "+inTuples(rest, "i")+")", "")
			checkPut(t, inTuples(depth-1, "(e v)"), inTuples(rest+1, "i"), inTuples(depth-1, "(e v)"))
		}
	}
}

func TestUnknownTypes(t *testing.T) {
	for _, text := range shortTexts("a01i-", 5) {
		want := ""
		if unknownOnly.MatchString(text) || text == "i" {
			want = text
		}
		checkPut(t, text, "(t)", want)
		checkPut(t, "v", text, want)
		if impl.TargetValid(text) != (text == "i") || impl.TargetValid("(e (t v "+text+"))") != (text == "i") {
			t.Errorf("%q is taken for a target type, or is not", text)
		}
	}
}

func TestTargetOfSomeTypes(t *testing.T) {
	cases := map[string][2]string{
		"i":               {"i", "(e (t (c v i) v))"},
		"(* i i)":         {"(t i i)", "(e (t (c v (t i i)) v))"},
		"(* i (* i i))":   {"(t i (t i i))", "(e (t (c v (t i (t i i))) v))"},
		"(* (* i i) i)":   {"(t (t i i) i)", "(e (t (c v (t (t i i) i)) v))"},
		"(> i i)":         {"(e (t (c v i (e (t (c v i) v))) v))", "(e (t (c v (e (t (c v i (e (t (c v i) v))) v))) v))"},
		"(> i (* i i))":   {"(e (t (c v i (e (t (c v (t i i)) v))) v))", "(e (t (c v (e (t (c v i (e (t (c v (t i i)) v))) v))) v))"},
		"(> (* i i) i)":   {"(e (t (c v (t i i) (e (t (c v i) v))) v))", "(e (t (c v (e (t (c v (t i i) (e (t (c v i) v))) v))) v))"},
		"(* i (> i i))":   {"(t i (e (t (c v i (e (t (c v i) v))) v)))", "(e (t (c v (t i (e (t (c v i (e (t (c v i) v))) v)))) v))"},
		"(> (> i i) i)":   {"(e (t (c v (e (t (c v i (e (t (c v i) v))) v)) (e (t (c v i) v))) v))", ""},
		"(> i (> i i))":   {"(e (t (c v i (e (t (c v (e (t (c v i (e (t (c v i) v))) v))) v))) v))", ""},
		"(> i (* i i) i)": {"", ""},
	}
	for kind, want := range cases {
		of, ok := impl.TargetOf(kind)
		if ok != (want[0] != "") || of != want[0] {
			t.Errorf("TargetOf(%q) is %q, %v", kind, of, ok)
		}
		next, ok := impl.TargetNext(kind)
		if ok != (want[0] != "") || want[1] != "" && next != want[1] || want[0] == "" && next != "" {
			t.Errorf("TargetNext(%q) is %q, %v", kind, next, ok)
		}
	}
}

// checkSource checks the target types of a type: P52, P53 and P54.
func checkSource(t *testing.T, kind string) {
	t.Helper()
	of, ok := impl.TargetOf(kind)
	if !ok || of != targetOf(kind) || !impl.TargetValid(of) || (of == "i") != (kind == "i") {
		t.Errorf("TargetOf(%q) is %q, %v", kind, cut(of), ok)
	}
	if back, ok := impl.TargetBack(of); !ok || back != kind {
		t.Errorf("TargetBack(%q) is %q, %v, not %q", cut(of), back, ok, kind)
	}
	next, ok := impl.TargetNext(kind)
	if !ok || next != nextOf(kind) || !impl.TargetValid(next) {
		t.Errorf("TargetNext(%q) is %q, %v", kind, cut(next), ok)
	}
	if back, ok := impl.TargetBack(next); ok || back != "" {
		t.Errorf("TargetBack(%q) is %q", cut(next), back)
	}
	parts, _ := impl.FormParts(next)
	for _, by := range []string{"i", "a0", "(t (e v))", of} {
		if put, ok := impl.TargetPut(parts[1], by); !ok || put != "(t (c "+by+" "+of+") "+by+")" {
			t.Errorf("TargetPut of the inside of %q is %q, %v", cut(next), cut(put), ok)
		}
	}
}

func TestTargetsOfTypes(t *testing.T) {
	for kind := range smallTypes() {
		checkSource(t, kind)
	}
	r := rand.New(rand.NewSource(23))
	for range 400 {
		checkSource(t, randomWideType(r, 2*r.Intn(8)+1))
	}
}

// The types of TypeMax atoms: none has an even number, so that those of 15 are the largest ones.
func TestTargetsOfTheLargestTypes(t *testing.T) {
	kinds := []string{wideType(">", 15), wideType("*", 15)}
	left := "i"
	for range 7 {
		left = "(> " + left + " i)"
	}
	kinds = append(kinds, left, "(> "+wideType(">", 7)+" "+wideType(">", 7)+")", "(* "+wideType(">", 7)+" "+wideType("*", 7)+")")
	for _, kind := range kinds {
		checkSource(t, kind)
	}
	for _, kind := range []string{wideType(">", 17), wideType("*", 17), "(> " + left + " i)", "(> " + wideType(">", 9) + " " + wideType(">", 7) + ")"} {
		if !isTarget(targetOf(kind)) {
			t.Fatalf("the target of %q is no type", kind)
		}
		checkNoSource(t, kind, targetOf(kind))
	}
}

// checkNoSource checks that a text is no type and another one no target type of one.
func checkNoSource(t *testing.T, kind string, target string) {
	t.Helper()
	if of, ok := impl.TargetOf(kind); ok || of != "" {
		t.Errorf("TargetOf(%q) is %q", cut(kind), cut(of))
	}
	if next, ok := impl.TargetNext(kind); ok || next != "" {
		t.Errorf("TargetNext(%q) is %q", cut(kind), cut(next))
	}
	if back, ok := impl.TargetBack(target); ok || back != "" {
		t.Errorf("TargetBack(%q) is %q", cut(target), back)
	}
}

func TestTargetBackOfTypesThatAreNear(t *testing.T) {
	texts := []string{
		"v", "a0", "t", "(t)", "(t i)", "(t i i i)", "(t v i)", "(t i a0)", "(c)", "(c i)", "(c i i)", "(e i)", "(e v)", "(e (t))", "(e (t i i))", "(e (t v v))", "(e (t i))", "(c i i i)",
		"(t (t i i))", "(t (t i i i) i)", "(t i (t i))", "(t i (c i i))", "(t (e v) i)", "(x i i)", "(> i i)", "(* i i)", "(e (t (c v i) v))",
		// What a function becomes, but for one part.
		"(e (t (c i i (e (t (c v i) v))) v))", "(e (t (c v i (e (t (c v i) v))) i))", "(e (t (c v i (e (t (c i i) v))) v))", "(e (t (c v i (e (t (c v i) i))) v))",
		"(e (t (c v i (e (t (c v i) v)) i) v))", "(e (t (c v i (e (t (c v i) v))) v v))", "(e (t (c v i (e (t (c v i) v)))))", "(e (t v (c v i (e (t (c v i) v)))))",
		"(t (t (c v i (e (t (c v i) v))) v))", "(e (c (c v i (e (t (c v i) v))) v))", "(e (t (t v i (e (t (c v i) v))) v))", "(c (t (c v i (e (t (c v i) v))) v))", "(e (e (t (c v i (e (t (c v i) v))) v)))",
		"(e (t (c v i (e (t (c v i i) v))) v))", "(e (t (c v i (e (t (c v) v))) v))", "(e (t (c v i i) v))", "(e (t (c v i v) v))", "(e (t (c v i (e v)) v))", "(e (t (c v i (t (c v i) v)) v))",
		"(e (t (c v (e (t (c v i) v)) i) v))", "(e (t (c v v (e (t (c v i) v))) v))", "(e (t (c v i (e (t (c v v) v))) v))", "(e (t (c i v (e (t (c v i) v))) v))", "(e (t (c (e (t (c v i) v)) v i) v))",
		"(e (t (c v a0 (e (t (c v i) v))) v))", "(e (t (c a0 i (e (t (c v i) v))) a0))", "(e (t (c v (t i) (e (t (c v i) v))) v))", "(e (t (c v i (e (t (c v (t i i i)) v))) v))",
		"(e (t (c v (e v) (e (t (c v i) v))) v))", "(e (t (c v i (e (t (c v i) v)))v))", "(e (t (c v i (e (t (c v i) v))) v)", "(e (t (c v i (e (t (c v i) v))) v)) ", "(t i (e (t (c v i) v)))", "(t (e (t (c v i) v)) i)",
		"(e (t (c v i (e (t (c v (e (t (c v i) v))) v))) v))", "(e (t (c v (e (t (c v i) v)) (e (t (c v i) v))) v))", "(e)", "(e e)", "(e (e))", "(e (t (c)))", "(e ((c v) v))", "(e (i (c v i) v))",
	}
	for _, text := range append(texts, fixedFaults()...) {
		if back, ok := impl.TargetBack(text); ok || back != "" {
			t.Errorf("TargetBack(%q) is %q", cut(text), back)
		}
	}
}

// P54, and TargetBack of what is near the target types of all small types.
func TestTargetBackAgreesWithTheOracle(t *testing.T) {
	sources := map[string]string{}
	texts := sampleTargetTexts()
	r := rand.New(rand.NewSource(24))
	for kind := range smallTypes() {
		sources[targetOf(kind)] = kind
	}
	for _, text := range slices.Sorted(maps.Keys(sources)) {
		for range 4 {
			texts = append(texts, swappedParts(r, text), swappedAtoms(r, text), spoiled(r, text), withPart(r, text, "(e (t (c v i) v))"))
		}
	}
	found := 0
	for _, text := range texts {
		back, ok := impl.TargetBack(text)
		if ok && len(atomsOf(back)) > 9 {
			if !impl.TypeValid(back) || targetOf(back) != text {
				t.Errorf("TargetBack(%q) is %q", cut(text), back)
			}
			continue
		}
		want := sources[text]
		if ok != (want != "") || back != want {
			t.Errorf("TargetBack(%q) is %q, %v, not %q", cut(text), back, ok, want)
		}
		if ok {
			found++
		}
	}
	if found < 500 {
		t.Errorf("%d of the samples are target types of types", found)
	}
}

func TestTargetsOfTextsThatAreNoTypes(t *testing.T) {
	for _, text := range slices.Concat(noTypes(), fixedFaults(), []string{"(t i i)", "(c i)", "(e v)", "v", "a0", "(> i v)", "(* v i)", "(> i (t))"}) {
		checkNoSource(t, text, "(t i "+text+" i)")
	}
}
