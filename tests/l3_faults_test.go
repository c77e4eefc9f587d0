package tests

import (
	"math/rand"
	"strings"
	"testing"

	"loop.example/typedassembly/impl"
)

// checkFault checks the fault of an expression, or that it has none if the fault is "".
func checkFault(t *testing.T, text string, want string) {
	t.Helper()
	if fault, ok := impl.ExprFault(text); ok != (want != "") || fault != want {
		t.Errorf("ExprFault(%q) is %q, %v, not %q", cut(text), cut(fault), ok, cut(want))
	}
}

func TestExprFaultOfSomeExprs(t *testing.T) {
	cases := map[string]string{
		"(+ 1 (fst 2))":                      "(fst 2)",
		"(fst 1)":                            "(fst 1)",
		"(snd (pair 1 2))":                   "",
		"(snd 1)":                            "(snd 1)",
		"(+ 1 (pair 2 3))":                   "(+ 1 (pair 2 3))",
		"(- (pair 2 3) 1)":                   "(- (pair 2 3) 1)",
		"(* 1 (* 2 (* 3 4)))":                "",
		"(if (pair 1 2) 1 2)":                "(if (pair 1 2) 1 2)",
		"(if 1 2 (pair 1 2))":                "(if 1 2 (pair 1 2))",
		"(call 1 2)":                         "(call 1 2)",
		"(call (fun f x i i x) (pair 1 2))":  "(call (fun f x i i x) (pair 1 2))",
		"(call (fun f x i i x) (fst 1))":     "(fst 1)",
		"(fun f x i i (pair x x))":           "(fun f x i i (pair x x))",
		"(fun f x i (* i i) x)":              "(fun f x i (* i i) x)",
		"(fun f x i i (+ 1 (call f f)))":     "(call f f)",
		"(fst (fst (pair 1 2)))":             "(fst (fst (pair 1 2)))",
		"(fst (snd (fst (pair 1 (fst 2)))))": "(fst 2)",
		"(let x 1 (fst x))":                  "(fst x)",
		"(let x (fst 1) x)":                  "(fst 1)",
		"(let x (fst 1) (snd x))":            "(fst 1)",
		"(let x (fst 1) (snd 2))":            "(fst 1)",
		// A fault in the second part of let, where the first one has a type.
		"(let x (pair 1 2) (+ x 1))":                              "(+ x 1)",
		"(let x (pair 1 2) (+ (fst x) (call x 1)))":               "(call x 1)",
		"(let x (pair 1 2) (let x (fst x) (fst x)))":              "(fst x)",
		"(let x 1 (pair (let x (pair 1 x) x) (fst x)))":           "(fst x)",
		"(fun f x i i (let y (call f x) (snd y)))":                "(snd y)",
		"(let f (fun f x i i x) (call f f))":                      "(call f f)",
		"(let x 1 (let y (pair x x) (let z (fst y) (call z y))))": "(call z y)",
		// The first one of several, in order, and parts ahead of what they are part of.
		"(+ (fst 1) (snd 2))":                      "(fst 1)",
		"(+ (snd 2) (fst 1))":                      "(snd 2)",
		"(+ (pair 1 2) (fst 1))":                   "(fst 1)",
		"(+ (pair 1 (snd 1)) (fst 1))":             "(snd 1)",
		"(if (pair 1 2) (fst 3) (snd 4))":          "(fst 3)",
		"(if (pair 1 2) 3 (snd 4))":                "(snd 4)",
		"(if (call 1 2) (fst 3) (snd 4))":          "(call 1 2)",
		"(call (fst 1) (snd 2))":                   "(fst 1)",
		"(call 1 (snd 2))":                         "(snd 2)",
		"(pair (call 1 (+ 1 (pair 1 1))) (fst 2))": "(+ 1 (pair 1 1))",
		"(fst (fst 1))":                            "(fst 1)",
		"(fst (+ (fst (+ 1 2)) (fst 3)))":          "(fst (+ 1 2))",
		"(fun f x i i (pair x (fst x)))":           "(fst x)",
		"(let x (+ 1 (pair 1 2)) (fst 1))":         "(+ 1 (pair 1 2))",
		"(pair (let x 1 (fst x)) (snd 1))":         "(fst x)",
		"(pair (fun f x i i f) (fst 1))":           "(fun f x i i f)",
		"(call (fun f x i i f) (call 1 2))":        "(fun f x i i f)",
		"(pair (fst 1) (fst 1))":                   "(fst 1)",
		"(fst (pair (snd -7) (snd 7)))":            "(snd -7)",
	}
	for text, want := range cases {
		checkFault(t, text, want)
	}
}

// The types of these functions have 17 atoms, so that they are none.
func TestFaultsOfFunsWhoseTypeIsNone(t *testing.T) {
	of := func(body string) string {
		return "(fun f x " + wideType("*", 7) + " " + wideType(">", 9) + " " + body + ")"
	}
	fitting := "(fun f x i " + wideType(">", 7) + " (call f x))"
	for _, body := range []string{"0", "x", "f", "(call f x)", "(fst x)", "(fst 1)", "(+ f 1)", "(pair (fst 1) (fst f))", fitting, of("1"), of("(fst 1)"), "(fun g y i i (fst 1))", "(let y (fst 1) y)"} {
		text := of(body)
		if !isExpr(text) {
			t.Fatalf("%q is no expression", text)
		}
		checkFault(t, text, text)
		checkFault(t, "(pair "+text+" (fst 1))", text)
		checkFault(t, "(let y (pair 1 2) (+ y "+text+"))", text)
		checkFault(t, "(fun g y i i (call g "+text+"))", text)
		checkFault(t, "(pair (snd 2) "+text+")", "(snd 2)")
		checkFault(t, "(let y (pair 1 2) (pair (+ y 1) "+text+"))", "(+ y 1)")
		if impl.ExprTyped(text) {
			t.Errorf("%q is typed", text)
		}
	}
	checkFault(t, "(fun f x "+wideType("*", 7)+" "+wideType("*", 7)+" (fst 1))", "(fst 1)")
	checkFault(t, "(fun f x "+wideType("*", 7)+" "+wideType("*", 7)+" x)", "")
	checkFault(t, "(fun f x i "+wideType("*", 13)+" (fst x))", "(fst x)")
	checkFault(t, "(fun f x i "+wideType("*", 15)+" (fst x))", "(fun f x i "+wideType("*", 15)+" (fst x))")
	checkFault(t, "(fun f x "+wideType(">", 15)+" i (fst x))", "(fun f x "+wideType(">", 15)+" i (fst x))")
}

// A pair whose type would have too many atoms is a fault as soon as it is met.
func TestFaultsOfTooWideTypes(t *testing.T) {
	seven, wide := typedZero(wideType("*", 7)), typedZero(wideType("*", 15))
	pair := "(pair " + seven + " (pair 0 " + seven + "))"
	for _, text := range []string{pair, "(pair 0 " + wide + ")", "(pair " + wide + " 0)", "(pair " + wide + " " + wide + ")"} {
		for _, around := range []string{"#", "(fst #)", "(fst (fst #))", "(let x # 0)", "(if 0 1 (snd #))", "(pair # #)", "(pair # (fst 1))"} {
			if whole := strings.ReplaceAll(around, "#", text); isExpr(whole) {
				checkFault(t, whole, text)
			}
		}
	}
	checkFault(t, "(pair "+wide+" (fst 1))", "(fst 1)")
}

func TestExprFaultFails(t *testing.T) {
	texts := []string{
		"0", "-7", "(+ 1 2)", "(fun f x i i x)", "(let x 1 x)", "(fst (pair 1 2))", // typed
		"a", "(fst a)", "(pair a (fst 1))", "(pair (fst 1) a)", "(let x (fst 1) y)", "(let y y (fst 1))", "(fun f x i i (fst y))", // not closed
		"(call (fun f x i i x) f)", "(pair (fun f x i " + wideType(">", 15) + " 0) x)",
		"", "(fst)", "(1)", "(fst 1", "(fst 1))", " (fst 1)", "(fst x1234)", inFsts(61, "1"), "(fst (fst " + sumOf(60, "1") + "))", // none
	}
	for _, text := range append(texts, fixedExprFaults()...) {
		checkFault(t, text, "")
	}
}

// P28, and what the fault is.
func TestExprFaultAgreesWithTheOracle(t *testing.T) {
	faults := map[string]int{}
	for _, text := range sampleTypings() {
		if !impl.ExprClosed(text) {
			checkFault(t, text, "")
			continue
		}
		_, want := typingOf(env{}, text)
		checkFault(t, text, want)
		fault, ok := impl.ExprFault(text)
		if !ok {
			continue
		}
		head := impl.ExprHead(fault)
		faults[head]++
		if impl.ExprTyped(text) || head == "" || head == "name" || head == "number" || impl.FormSize(fault) > impl.FormSize(text) {
			t.Errorf("%q has the fault %q, and is typed: %v", cut(text), cut(fault), impl.ExprTyped(text))
		}
		if !strings.Contains(text, fault) || impl.ExprTyped(fault) {
			t.Errorf("%q has the fault %q, which is typed: %v", cut(text), cut(fault), impl.ExprTyped(fault))
		}
	}
	for _, head := range []string{"+", "-", "*", "if", "fun", "call", "pair", "fst", "snd"} {
		if faults[head] < 10 {
			t.Errorf("just %d faults have the head %q", faults[head], head)
		}
	}
	if faults["let"] != 0 {
		t.Errorf("a let is a fault")
	}
}

func TestExprOfSomeTypes(t *testing.T) {
	cases := map[string]string{
		"i":                                     "0",
		"(* i i)":                               "(pair 0 0)",
		"(> i i)":                               "(fun f x i i 0)",
		"(> i (* i i))":                         "(fun f x i (* i i) (pair 0 0))",
		"(> (* i i) i)":                         "(fun f x (* i i) i 0)",
		"(* (> i i) i)":                         "(pair (fun f x i i 0) 0)",
		"(* i (> i i))":                         "(pair 0 (fun f x i i 0))",
		"(* (* i i) i)":                         "(pair (pair 0 0) 0)",
		"(> i (> i i))":                         "(fun f x i (> i i) (fun f x i i 0))",
		"(> (> i i) i)":                         "(fun f x (> i i) i 0)",
		"(> (> i i) (> i i))":                   "(fun f x (> i i) (> i i) (fun f x i i 0))",
		"(> (* i (> i i)) (* (> i i) (* i i)))": "(fun f x (* i (> i i)) (* (> i i) (* i i)) (pair (fun f x i i 0) (pair 0 0)))",
	}
	for kind, want := range cases {
		if text, ok := impl.ExprOf(kind); !ok || text != want {
			t.Errorf("ExprOf(%q) is %q, %v", kind, text, ok)
		}
	}
}

func TestExprOfFailsForNoTypes(t *testing.T) {
	for _, text := range append(append(noTypes(), fixedFaults()...), wideType("*", 17), wideType(">", 17), "(* i "+wideType("*", 15)+")", "0", "(pair 0 0)", "(fun f x i i 0)") {
		if of, ok := impl.ExprOf(text); ok || of != "" {
			t.Errorf("ExprOf(%q) is %q, %v", cut(text), of, ok)
		}
	}
}

// randomWideType is a type of just as many atoms, an odd number.
func randomWideType(r *rand.Rand, atoms int) string {
	if atoms == 1 {
		return "i"
	}
	first := 1 + 2*r.Intn(atoms/2)
	return "(" + []string{">", "*"}[r.Intn(2)] + " " + randomWideType(r, first) + " " + randomWideType(r, atoms-1-first) + ")"
}

// P30. A numeral, a pair of values or a fun is a value: no others come up here.
func TestExprsOfTypesHaveThem(t *testing.T) {
	r := rand.New(rand.NewSource(10))
	kinds := []string{wideType("*", 15), wideType(">", 15)}
	for kind := range smallTypes() {
		kinds = append(kinds, kind)
	}
	for range 1000 {
		kinds = append(kinds, randomWideType(r, 11+2*r.Intn(3)))
	}
	for _, kind := range kinds {
		text, ok := impl.ExprOf(kind)
		if !ok || !impl.ExprTyped(text) || !isValueOf(text, kind) {
			t.Errorf("ExprOf(%q) is %q, %v", kind, text, ok)
		}
		checkType(t, env{}, text, kind)
		checkFault(t, text, "")
	}
}

func isValueOf(text string, kind string) bool {
	a, b, ok := impl.TypePair(kind)
	if !ok {
		want := map[bool]string{true: "number", false: "fun"}[kind == "i"]
		return impl.ExprHead(text) == want
	}
	kids, _ := impl.ExprKids(text)
	return impl.ExprHead(text) == "pair" && len(kids) == 2 && isValueOf(kids[0], a) && isValueOf(kids[1], b)
}

func TestExprManyOfSomeExprs(t *testing.T) {
	cases := map[string]int{
		"a": 1, "i": 1, "0": 1, "-999": 1,
		"(+ a 1)": 3, "(- 1 (- a b))": 5, "(* i i)": 3, "(if a b c)": 4, "(if (if 1 2 3) 4 5)": 7,
		"(let x 1 x)": 3, "(let x x (let x x x))": 5, "(let x (+ 1 2) (fst x))": 6,
		"(fun f x i i x)": 2, "(fun f x (> i i) (* i (* i i)) (+ f x))": 4, "(fun f x i i (fun f x i i 0))": 3,
		"(call f x)": 3, "(pair (call f x) -1)": 5, "(pair a a)": 3, "(fst p)": 2, "(snd (fst (pair 1 2)))": 5,
		"(fst (fun f x i i 1))": 3, "(* (* 1 2) (* 3 4))": 7,
		sumOf(60, "1"): 119, "(fst " + sumOf(60, "a") + ")": 120, inFsts(impl.DepthMax, "a"): 61, inLets(39): 79, inFuns(23): 24, wideFuns(sumOf(11, "x")): 24,
	}
	for text, want := range cases {
		if many := impl.ExprMany(text); many != want {
			t.Errorf("ExprMany(%q) is %d", cut(text), many)
		}
	}
	for _, text := range append(fixedExprFaults(), noTypes()[1:5]...) {
		if many := impl.ExprMany(text); !isExpr(text) && many != -1 {
			t.Errorf("ExprMany(%q) is %d", cut(text), many)
		}
	}
}

// P29.
func TestExprManyIsThatOfTheKidsAndOne(t *testing.T) {
	for _, text := range append(sampleExprs(), sampleTypings()...) {
		many := impl.ExprMany(text)
		kids, _ := impl.ExprKids(text)
		sum := 1
		for _, kid := range kids {
			sum += impl.ExprMany(kid)
		}
		plain, _ := impl.ExprPlain(text)
		if many != sum || many != manyOf(text) || many > impl.FormSize(text) || many != impl.ExprMany(plain) {
			t.Errorf("ExprMany(%q) is %d, and its kids give %d", cut(text), many, sum)
		}
	}
}

// P21.
func TestValidExprsHaveHeadsAndKids(t *testing.T) {
	for _, text := range append(sampleExprTexts(), sampleTypings()...) {
		if !impl.ExprValid(text) {
			continue
		}
		kids, ok := impl.ExprKids(text)
		if !impl.FormValid(text) || impl.FormSize(text) > 120 || impl.ExprHead(text) == "" || !ok {
			t.Errorf("%q is an expression of %d atoms with the head %q", cut(text), impl.FormSize(text), impl.ExprHead(text))
		}
		for _, kid := range kids {
			if !impl.ExprValid(kid) {
				t.Errorf("%q has the kid %q", cut(text), cut(kid))
			}
		}
	}
}

func TestTypingTakesAnyText(t *testing.T) {
	texts := []string{strings.Repeat("(let x ", 1<<18), strings.Repeat("(> i ", 1<<18) + "i" + strings.Repeat(")", 1<<18), strings.Repeat("a", 1<<20)}
	r := rand.New(rand.NewSource(11))
	for range 2000 {
		text := make([]byte, r.Intn(20))
		for i := range text {
			text[i] = "()() letfunxi01-+*>\n\xff"[r.Intn(21)]
		}
		texts = append(texts, string(text))
	}
	for _, text := range texts {
		if impl.EnvValid([]string{text}, []string{"i"}) != nameOnly.MatchString(text) || impl.EnvValid([]string{"a"}, []string{text}) != impl.TypeValid(text) {
			t.Errorf("%q is taken for a name or a type, or is not", cut(text))
		}
		if _, ok := impl.ExprOf(text); ok != impl.TypeValid(text) {
			t.Errorf("ExprOf(%q) succeeds: %v", cut(text), ok)
		}
		want, many := "", -1
		if isExpr(text) {
			want, _ = typingOf(env{}, text)
			many = manyOf(text)
		}
		checkType(t, env{}, text, want)
		if got := impl.ExprMany(text); got != many {
			t.Errorf("ExprMany(%q) is %d", cut(text), got)
		}
	}
}
