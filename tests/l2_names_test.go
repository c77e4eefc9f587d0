package tests

import (
	"math/rand"
	"slices"
	"strconv"
	"strings"
	"testing"

	"loop.example/typedassembly/impl"
)

func TestExprFreeOfSomeExprs(t *testing.T) {
	cases := map[string][]string{
		"a":                                   {"a"},
		"0":                                   nil,
		"i":                                   {"i"},
		"(+ b (+ a b))":                       {"b", "a"},
		"(let x 1 x)":                         nil,
		"(let x x x)":                         {"x"},
		"(let x y x)":                         {"y"},
		"(let x 1 2)":                         nil,
		"(let x 1 (let x x x))":               nil,
		"(let x 1 (let y x (pair x y)))":      nil,
		"(let x (let x 1 x) x)":               nil,
		"(let x (let y 1 y) y)":               {"y"},
		"(pair (let x 1 x) x)":                {"x"},
		"(pair x (let x 1 x))":                {"x"},
		"(fun f x i i x)":                     nil,
		"(fun f x i i f)":                     nil,
		"(fun f x i i i)":                     {"i"},
		"(fun f x (> i i) (* i i) 1)":         nil,
		"(fun f x i i (let f f f))":           nil,
		"(fun f x i i (let x y x))":           {"y"},
		"(fun f x i i (fun x f i i (+ f x)))": nil,
		"(fun f x i i (fun g y i i (+ f z)))": {"z"},
		"(call (fun f x i i x) f)":            {"f"},
		"(call x (fun f x i i x))":            {"x"},
		"(if c b a)":                          {"c", "b", "a"},
		"(+ a (let b c (* b d)))":             {"a", "c", "d"},
		"(let a b (let b a (let c b c)))":     {"b"},
		"(let a (+ d c) (+ b (+ a (+ c e))))": {"d", "c", "b", "e"},
		"(pair (let b 1 (+ a b)) (+ b a))":    {"a", "b"},
	}
	for text, want := range cases {
		if names, ok := impl.ExprFree(text); !ok || !slices.Equal(names, want) {
			t.Errorf("ExprFree(%q) is %q, %v", text, names, ok)
		}
		if impl.ExprClosed(text) != (len(want) == 0) {
			t.Errorf("ExprClosed(%q) is %v", text, impl.ExprClosed(text))
		}
	}
}

func TestExprCountOfSomeExprs(t *testing.T) {
	cases := []struct {
		text, name string
		count      int
	}{
		{"a", "a", 1},
		{"a", "b", 0},
		{"0", "a", 0},
		{"(+ a a)", "a", 2},
		{"(let a a a)", "a", 1},
		{"(let b a (+ a (+ a b)))", "a", 3},
		{"(let b a (+ a (+ a b)))", "b", 0},
		{"(let a 1 (+ a a))", "a", 0},
		{"(pair a (pair (let a a (+ a a)) a))", "a", 3},
		{"(fun f x i i (+ f x))", "f", 0},
		{"(fun f x i i (+ f x))", "x", 0},
		{"(fun f x i i (+ f x))", "i", 0},
		{"(fun f x i i (+ i i))", "i", 2},
		{"(fun f i i i (+ i i))", "i", 0},
		{"(fun i x i i (+ i i))", "i", 0},
		{"(fun f x (* i i) (> i i) (* i i))", "i", 2},
		{"(call (fun f x i i f) (+ f f))", "f", 2},
		{"(let x0 x00 (+ x0 x00))", "x00", 2},
		{sumOf(60, "a"), "a", 60},
	}
	for _, c := range cases {
		if count := impl.ExprCount(c.text, c.name); count != c.count {
			t.Errorf("ExprCount(%q, %q) is %d", c.text, c.name, count)
		}
	}
}

// P13 and P17, and what is free.
func TestFreeNamesAgreeWithTheOracle(t *testing.T) {
	for _, text := range sampleExprs() {
		places := freeOf(text)
		names, ok := impl.ExprFree(text)
		if !ok || !slices.Equal(names, firstAtoms(places)) {
			t.Errorf("ExprFree(%q) is %q, %v", cut(text), names, ok)
		}
		if impl.ExprClosed(text) != (len(places) == 0) {
			t.Errorf("ExprClosed(%q) is %v", cut(text), impl.ExprClosed(text))
		}
		for _, name := range append(firstAtoms(atomsOf(text)), "a", "y9") {
			if !nameOnly.MatchString(name) {
				continue
			}
			want := 0
			for _, place := range places {
				if place == name {
					want++
				}
			}
			count := impl.ExprCount(text, name)
			if count != want || count > impl.FormSize(text) || (count == 0) == slices.Contains(names, name) {
				t.Errorf("ExprCount(%q, %q) is %d", cut(text), name, count)
			}
			bound := "(let " + name + " 0 " + text + ")"
			if isExpr(bound) && impl.ExprCount(bound, name) != 0 {
				t.Errorf("ExprCount(%q, %q) is %d", cut(bound), name, impl.ExprCount(bound, name))
			}
		}
	}
}

// P13.
func TestFreeNamesPutLeaveNone(t *testing.T) {
	for _, text := range sampleExprs() {
		names, _ := impl.ExprFree(text)
		rest := text
		for _, name := range names {
			put, ok := impl.ExprPut(rest, name, "0")
			if !ok {
				t.Fatalf("ExprPut(%q, %q, 0) fails", cut(rest), name)
			}
			rest = put
		}
		if !impl.ExprClosed(rest) {
			t.Errorf("%q with all of %q put is %q", cut(text), names, cut(rest))
		}
	}
}

// P14.
func TestPutLeavesClosedExprs(t *testing.T) {
	for _, text := range sampleExprs() {
		if !impl.ExprClosed(text) {
			continue
		}
		if names, ok := impl.ExprFree(text); !ok || len(names) != 0 {
			t.Errorf("%q is closed, with the free names %q", cut(text), names)
		}
		for _, name := range []string{"a", "b", "f", "i", "x", "x0", "y9"} {
			for _, by := range []string{"0", "(fun a b i i (+ a b))", sumOf(60, "1"), inFsts(impl.DepthMax, "1")} {
				if put, ok := impl.ExprPut(text, name, by); !ok || put != text {
					t.Errorf("ExprPut(%q, %q, %q) is %q, %v", cut(text), name, cut(by), cut(put), ok)
				}
			}
		}
	}
}

func TestExprPlainOfSomeExprs(t *testing.T) {
	cases := map[string]string{
		"a":                                       "a",
		"-7":                                      "-7",
		"x0":                                      "x0",
		"(let a 1 a)":                             "(let x0 1 x0)",
		"(let a a a)":                             "(let x0 a x0)",
		"(let x0 x0 x0)":                          "(let x1 x0 x1)",
		"(let x1 x0 x1)":                          "(let x1 x0 x1)",
		"(let a 1 (let b 2 (+ a b)))":             "(let x0 1 (let x1 2 (+ x0 x1)))",
		"(let a 1 (let a a a))":                   "(let x0 1 (let x1 x0 x1))",
		"(let a (let b 1 b) a)":                   "(let x0 (let x1 1 x1) x0)",
		"(let a (let a 1 a) (let a 2 a))":         "(let x0 (let x1 1 x1) (let x2 2 x2))",
		"(fun f x i i (call f x))":                "(fun x0 x1 i i (call x0 x1))",
		"(fun x f i i (call f x))":                "(fun x0 x1 i i (call x1 x0))",
		"(fun i f (> i i) (* i i) (call f i))":    "(fun x0 x1 (> i i) (* i i) (call x1 x0))",
		"(fun f x i i (let f x (+ f x)))":         "(fun x0 x1 i i (let x2 x1 (+ x2 x1)))",
		"(fun f x i i (fun x f i i (- f x)))":     "(fun x0 x1 i i (fun x2 x3 i i (- x3 x2)))",
		"(fun f x i i (fun g f i i (+ f x)))":     "(fun x0 x1 i i (fun x2 x3 i i (+ x3 x1)))",
		"(+ (let a 1 a) x0)":                      "(+ (let x1 1 x1) x0)",
		"(+ (let x0 1 x0) x0)":                    "(+ (let x1 1 x1) x0)",
		"(+ x0 (let x0 1 x0))":                    "(+ x0 (let x1 1 x1))",
		"(+ (let a 1 (let b 2 b)) (+ x2 x0))":     "(+ (let x1 1 (let x3 2 x3)) (+ x2 x0))",
		"(+ (fun a b i i a) (+ x1 x00))":          "(+ (fun x0 x2 i i x0) (+ x1 x00))",
		"(let x1 1 (let x0 2 (+ x0 x1)))":         "(let x0 1 (let x1 2 (+ x1 x0)))",
		"(pair (let a 1 a) (let a 1 a))":          "(pair (let x0 1 x0) (let x1 1 x1))",
		"(pair (let x2 1 x2) (let x3 1 x0))":      "(pair (let x1 1 x1) (let x2 1 x0))",
		"(if (let a 1 a) (let b 2 b) (snd a))":    "(if (let x0 1 x0) (let x1 2 x1) (snd a))",
		"(call (fun f x i i x) (let f x f))":      "(call (fun x0 x1 i i x1) (let x2 x x2))",
		"(let x0 1 (let a x0 (pair a x0)))":       "(let x0 1 (let x1 x0 (pair x1 x0)))",
		"(let a (fun a b i i a) (fun b a i i a))": "(let x0 (fun x1 x2 i i x1) (fun x3 x4 i i x4))",
	}
	for text, want := range cases {
		if plain, ok := impl.ExprPlain(text); !ok || plain != want {
			t.Errorf("ExprPlain(%q) is %q, %v", text, plain, ok)
		}
	}
}

// An expression binds at most 47 names, and with as many free ones in the way it goes up to x78: so that more than 100 names are never needed.
func TestExprPlainOfManyNames(t *testing.T) {
	plain, ok := impl.ExprPlain(inFuns(23))
	if atoms, _ := impl.FormAtoms(plain); !ok || !slices.Contains(atoms, "x45") || slices.Contains(atoms, "x46") {
		t.Errorf("ExprPlain of 46 names is %q, %v", plain, ok)
	}
	plain, ok = impl.ExprPlain(inLets(39))
	want := inLets(39)
	want = strings.Replace(want, " a)", " x77)", 1)
	for i := range 39 {
		want = strings.Replace(want, "(let a ", "(let x"+strconv.Itoa(39+i)+" ", 1)
	}
	if !ok || plain != want {
		t.Errorf("ExprPlain of 39 names with as many in the way is %q, %v", plain, ok)
	}
	over := inFuns(51)
	if plain, ok := impl.ExprPlain(over); ok || plain != "" {
		t.Errorf("ExprPlain of 102 names is %q", plain)
	}
}

// P15, and what the plain one is.
func TestPlainExprsAgreeWithTheOracle(t *testing.T) {
	for _, text := range sampleExprs() {
		plain, ok := impl.ExprPlain(text)
		if !ok || plain != plainOf(text) {
			t.Fatalf("ExprPlain(%q) is %q, %v", cut(text), cut(plain), ok)
		}
		if !impl.ExprAlike(text, plain) || withoutNames(plain) != withoutNames(text) {
			t.Errorf("%q is not alike %q", cut(text), cut(plain))
		}
		if again, ok := impl.ExprPlain(plain); !ok || again != plain {
			t.Errorf("ExprPlain(%q) is %q, %v", cut(plain), cut(again), ok)
		}
		free, _ := impl.ExprFree(text)
		if same, _ := impl.ExprFree(plain); !slices.Equal(same, free) || impl.FormSize(plain) != impl.FormSize(text) {
			t.Errorf("%q has the free names %q, and %q %q", cut(text), free, cut(plain), same)
		}
	}
}

func TestExprAlikeOfSomeExprs(t *testing.T) {
	alike := [][2]string{
		{"a", "a"},
		{"1", "1"},
		{"(let a 1 a)", "(let b 1 b)"},
		{"(let a a a)", "(let b a b)"},
		{"(let a 1 (let b 2 (+ a b)))", "(let b 1 (let a 2 (+ b a)))"},
		{"(let a 1 (let b a b))", "(let a 1 (let a a a))"},
		{"(let a 1 (let a 2 a))", "(let b 1 (let a 2 a))"},
		{"(fun f x i i (call f x))", "(fun x f i i (call x f))"},
		{"(fun f x i i (fun g y i i x))", "(fun f x i i (fun y f i i x))"},
		{"(fun f x i i 1)", "(fun g y i i 1)"},
		{"(pair (let a 1 a) a)", "(pair (let b 1 b) a)"},
	}
	for _, pair := range alike {
		if !impl.ExprAlike(pair[0], pair[1]) || !impl.ExprAlike(pair[1], pair[0]) {
			t.Errorf("%q and %q are not alike", pair[0], pair[1])
		}
	}
	apart := [][2]string{
		{"a", "b"},
		{"1", "2"},
		{"a", "1"},
		{"(+ 1 2)", "(- 1 2)"},
		{"(+ 1 2)", "(+ 2 1)"},
		{"(+ a b)", "(+ b a)"},
		{"(fst a)", "(snd a)"},
		{"(call a b)", "(pair a b)"},
		{"(let a 1 a)", "(let a 2 a)"},
		{"(let a 1 a)", "(let b 1 a)"},
		{"(let a 1 b)", "(let b 1 b)"},
		{"(let a 1 b)", "(let a 1 a)"},
		{"(let a a a)", "(let b b b)"},
		{"(let a 1 (let b 2 (+ a b)))", "(let a 1 (let a 2 (+ a a)))"},
		{"(let a 1 (let b 2 (+ a b)))", "(let b 1 (let a 2 (+ a b)))"},
		{"(let a 1 (let a 2 a))", "(let a 1 (let b 2 a))"},
		{"(fun f x i i x)", "(fun f x i i f)"},
		{"(fun f x i i x)", "(fun x f i i x)"},
		{"(fun f x i i x)", "(fun f y i i x)"},
		{"(fun f x i i x)", "(fun f x i (> i i) x)"},
		{"(fun f x (> i i) i x)", "(fun f x (* i i) i x)"},
		{"(fun f x i (* i i) x)", "(fun f x (* i i) i x)"},
		{"(pair (let a 1 a) a)", "(pair (let b 1 b) b)"},
		{"(let x0 1 (+ x0 x1))", "(let x1 1 (+ x1 x0))"},
		{"(let a 1 (let b 2 b))", "(let a 1 b)"},
		{"a", "A"},
		{"(let a 1 a)", "(let b 1 b) "},
	}
	for _, pair := range apart {
		if impl.ExprAlike(pair[0], pair[1]) || impl.ExprAlike(pair[1], pair[0]) {
			t.Errorf("%q and %q are alike", pair[0], pair[1])
		}
	}
	for _, text := range fixedExprFaults() {
		if impl.ExprAlike(text, text) || impl.ExprAlike(text, "1") || impl.ExprAlike("1", text) {
			t.Errorf("%q is alike", cut(text))
		}
	}
}

func TestExprAlikeAgreesWithTheOracle(t *testing.T) {
	small := smallExprs()
	r := rand.New(rand.NewSource(5))
	r.Shuffle(len(small), func(i int, j int) { small[i], small[j] = small[j], small[i] })
	marks := make([]string, len(small))
	for i, text := range small {
		marks[i] = withoutNames(text)
	}
	found := 0
	for i, a := range small {
		for j := i % 7; j < len(small); j += 7 {
			want := marks[i] == marks[j]
			if got := impl.ExprAlike(a, small[j]); got != want {
				t.Errorf("ExprAlike(%q, %q) is %v", a, small[j], got)
			}
			if want && i != j {
				found++
			}
		}
	}
	if found < 100 {
		t.Errorf("just %d pairs of small expressions are alike", found)
	}
}

func TestExprAlikeOfRenamedExprs(t *testing.T) {
	r := rand.New(rand.NewSource(6))
	for _, text := range sampleExprs() {
		other := withOthers(r, text)
		if !impl.ExprAlike(text, other) || !impl.ExprAlike(other, text) {
			t.Errorf("%q and %q are not alike", cut(text), cut(other))
		}
		first, _ := impl.ExprPlain(text)
		second, _ := impl.ExprPlain(other)
		firstFree, _ := impl.ExprFree(text)
		secondFree, _ := impl.ExprFree(other)
		if first != second || !slices.Equal(firstFree, secondFree) || impl.ExprHead(text) != impl.ExprHead(other) || impl.FormSize(text) != impl.FormSize(other) {
			t.Errorf("%q and %q are alike, and differ", cut(text), cut(other))
		}
		spoilt := swappedAtoms(r, other)
		if want := isExpr(spoilt) && withoutNames(spoilt) == withoutNames(text); impl.ExprAlike(text, spoilt) != want {
			t.Errorf("ExprAlike(%q, %q) is %v", cut(text), cut(spoilt), !want)
		}
	}
}
