package tests

import (
	"math/rand"
	"strconv"
	"strings"
	"testing"

	"loop.example/typedassembly/impl"
)

// checkStep checks the expression behind a step, or that there is none if it is "".
func checkStep(t *testing.T, text string, want string) {
	t.Helper()
	if next, ok := impl.Step(text); ok != (want != "") || next != want {
		t.Errorf("Step(%q) is %q, %v, not %q", cut(text), cut(next), ok, cut(want))
	}
}

// checkStuck checks that an expression is stuck, by all that chapter 4 tells about what is (P37).
func checkStuck(t *testing.T, text string) {
	t.Helper()
	if !isClosed(text) {
		t.Fatalf("%q is no closed expression", cut(text))
	}
	checkStep(t, text, "")
	checkNoValue(t, text)
	if !impl.StepStuck(text) || impl.ExprTyped(text) || !impl.EvalStuck(text, impl.FuelMax) {
		t.Errorf("%q is stuck: %v, typed: %v, and evaluated until it is stuck: %v", cut(text), impl.StepStuck(text), impl.ExprTyped(text), impl.EvalStuck(text, impl.FuelMax))
	}
	if next, n, ok := impl.StepMany(text, 500); !ok || n != 0 || next != text {
		t.Errorf("%q is stuck, but takes %d steps to %q", cut(text), n, cut(next))
	}
	if printed, took, ok := impl.Eval(text, impl.FuelMax); ok || printed != "" || took != 0 || impl.EvalFuel(text) != -1 {
		t.Errorf("%q is stuck, but evaluated to %q with %d", cut(text), cut(printed), took)
	}
}

// checkSteps checks each of the steps of an expression, the last of which comes to a value or to what is stuck.
func checkSteps(t *testing.T, texts ...string) {
	t.Helper()
	last := len(texts) - 1
	for i, text := range texts {
		want := ""
		if i < last {
			want = texts[i+1]
		}
		checkStep(t, text, want)
		if i < last && impl.StepStuck(text) {
			t.Errorf("%q is stuck", cut(text))
		}
		if next, n, ok := impl.StepMany(texts[0], i); !ok || next != text || n != i {
			t.Errorf("%d steps of %q, at most %d, lead to %q, %v", n, cut(texts[0]), i, cut(next), ok)
		}
	}
	if next, n, ok := impl.StepMany(texts[0], last+1); !ok || next != texts[last] || n != last {
		t.Errorf("%d steps of %q lead to %q, %v", n, cut(texts[0]), cut(next), ok)
	}
}

func TestStepOfEachHead(t *testing.T) {
	cases := map[string]string{
		"(+ 1 2)": "3", "(- 1 2)": "-1", "(- 2 1)": "1", "(* 3 -4)": "-12", "(* 0 999)": "0", "(+ -1 1)": "0",
		"(if 0 1 2)": "1", "(if 1 1 2)": "2", "(if -1 1 2)": "2", "(if 0 (+ 1 2) (fst 1))": "(+ 1 2)", "(if 7 (fst 1) (+ 1 2))": "(+ 1 2)",
		"(let x 1 x)": "1", "(let x 1 2)": "2", "(let x 1 (+ x x))": "(+ 1 1)", "(let x (pair 1 2) (fst x))": "(fst (pair 1 2))", "(let x (fun f x i i x) (call x x))": "(call (fun f x i i x) (fun f x i i x))",
		"(let x 1 (let x x x))": "(let x 1 x)", "(let x 1 (let y x (let x y x)))": "(let y 1 (let x y x))", "(let x 1 (fun f x i i x))": "(fun f x i i x)", "(let x 1 (fun f y i i x))": "(fun f y i i 1)",
		"(call (fun f x i i x) 4)": "4", "(call (fun f x i i 7) 4)": "7", "(call (fun f x i i (+ x 1)) 4)": "(+ 4 1)", "(call (fun f x i i f) 4)": "(fun f x i i f)",
		"(call (fun f x i i (call f x)) 4)":          "(call (fun f x i i (call f x)) 4)",
		"(call (fun f x i i (pair f f)) (pair 1 2))": "(pair (fun f x i i (pair f f)) (fun f x i i (pair f f)))",
		"(call (fun f x i i x) (fun g y i i y))":     "(fun g y i i y)",
		"(fst (pair 1 2))":                           "1", "(snd (pair 1 2))": "2", "(fst (pair (pair 1 2) 3))": "(pair 1 2)", "(snd (pair 1 (fun f x i i x)))": "(fun f x i i x)",
	}
	for text, want := range cases {
		checkStep(t, text, want)
	}
}

func TestStepGoesRound(t *testing.T) {
	cases := map[string]string{
		"(+ 499 0)": "499", "(+ 499 1)": "-500", "(+ 1 499)": "-500", "(- 499 -1)": "-500", "(- -500 1)": "499", "(+ -500 -1)": "499", "(- -500 0)": "-500", "(- -499 1)": "-500",
		"(* 25 20)": "-500", "(* 250 2)": "-500", "(* 501 1)": "-499", "(* -501 1)": "499", "(* 500 2)": "0", "(* -500 -1)": "-500", "(* 999 999)": "1", "(* 999 -999)": "-1", "(* 100 100)": "0", "(* 33 33)": "89",
		"(+ 999 999)": "-2", "(- -999 999)": "2", "(+ 999 1)": "0", "(+ 999 0)": "-1", "(+ 500 0)": "-500", "(- 0 500)": "-500", "(- 0 999)": "1", "(- 999 -501)": "-500", "(+ -999 0)": "1", "(+ -501 0)": "499",
	}
	for text, want := range cases {
		checkSteps(t, text, want)
		if printed, took, ok := impl.Eval(text, 3); !ok || printed != want || took != 3 {
			t.Errorf("Eval(%q, 3) is %q, %d, %v, not %q", text, printed, took, ok, want)
		}
	}
	r := rand.New(rand.NewSource(14))
	for range 5000 {
		head, a, b := []string{"+", "-", "*"}[r.Intn(3)], strconv.Itoa(r.Intn(1999)-999), strconv.Itoa(r.Intn(1999)-999)
		text, want := "("+head+" "+a+" "+b+")", reckoned(head, a, b)
		checkStep(t, text, want)
		if printed, took, ok := impl.Eval(text, 3); !ok || printed != want || took != 3 {
			t.Errorf("Eval(%q, 3) is %q, %d, %v, not %q", text, printed, took, ok, want)
		}
	}
}

// Numerals that stand in an expression do not go round by themselves.
func TestStepsOfNumeralsBeyondTheShortOnes(t *testing.T) {
	for _, n := range numeralsBeyond() {
		checkSteps(t, n)
		checkSteps(t, "(if "+n+" 1 2)", "2")
		checkSteps(t, "(if 0 "+n+" 2)", n)
		checkSteps(t, "(let x "+n+" (pair x x))", "(pair "+n+" "+n+")")
		checkSteps(t, "(call (fun f x i i (pair x "+n+")) "+n+")", "(pair "+n+" "+n+")")
		checkSteps(t, "(fst (pair "+n+" 1))", n)
		checkSteps(t, "(+ "+n+" 0)", reckoned("+", n, "0"))
		checkSteps(t, "(if (- "+n+" "+n+") 1 2)", "(if 0 1 2)", "1")
	}
	checkSteps(t, "(if (+ 999 1) 1 2)", "(if 0 1 2)", "1")
	checkSteps(t, "(if (+ 500 -500) 1 2)", "(if 0 1 2)", "1")
	checkSteps(t, "(if (* 500 2) 1 2)", "(if 0 1 2)", "1")
	checkSteps(t, "(if (- 499 -1) 1 2)", "(if -500 1 2)", "2")
}

func TestStepsGoInOrder(t *testing.T) {
	checkSteps(t, "(+ (+ 1 2) (+ 3 4))", "(+ 3 (+ 3 4))", "(+ 3 7)", "10")
	checkSteps(t, "(pair (pair (+ 1 2) (+ 3 4)) (+ 5 6))", "(pair (pair 3 (+ 3 4)) (+ 5 6))", "(pair (pair 3 7) (+ 5 6))", "(pair (pair 3 7) 11)")
	checkSteps(t, "(- (* 2 3) (* 4 5))", "(- 6 (* 4 5))", "(- 6 20)", "-14")
	checkSteps(t, "(* (- 2 3) (* 4 5))", "(* -1 (* 4 5))", "(* -1 20)", "-20")
	checkSteps(t, "(call (if 0 (fun f x i i (* x x)) 1) (+ 1 2))", "(call (fun f x i i (* x x)) (+ 1 2))", "(call (fun f x i i (* x x)) 3)", "(* 3 3)", "9")
	checkSteps(t, "(fst (pair (+ 1 2) (+ 3 4)))", "(fst (pair 3 (+ 3 4)))", "(fst (pair 3 7))", "3")
	checkSteps(t, "(snd (pair (+ 1 2) (+ 3 4)))", "(snd (pair 3 (+ 3 4)))", "(snd (pair 3 7))", "7")
	checkSteps(t, "(+ (fst (pair 1 2)) (snd (pair (+ 3 4) 5)))", "(+ 1 (snd (pair (+ 3 4) 5)))", "(+ 1 (snd (pair 7 5)))", "(+ 1 5)", "6")
}

func TestStepsLeaveWhatIsNotEvaluated(t *testing.T) {
	checkSteps(t, "(if (- 1 1) (+ 1 2) (+ 3 4))", "(if 0 (+ 1 2) (+ 3 4))", "(+ 1 2)", "3")
	checkSteps(t, "(if (+ 1 1) (+ 1 2) (+ 3 4))", "(if 2 (+ 1 2) (+ 3 4))", "(+ 3 4)", "7")
	checkSteps(t, "(let x (+ 1 2) (+ (+ 3 4) x))", "(let x 3 (+ (+ 3 4) x))", "(+ (+ 3 4) 3)", "(+ 7 3)", "10")
	checkSteps(t, "(let x (let y (+ 1 2) (+ y 4)) (+ x x))", "(let x (let y 3 (+ y 4)) (+ x x))", "(let x (+ 3 4) (+ x x))", "(let x 7 (+ x x))", "(+ 7 7)", "14")
	checkSteps(t, "(fun f x i i (+ 1 2))")
	checkSteps(t, "(pair (fun f x i i (+ 1 2)) (+ 3 4))", "(pair (fun f x i i (+ 1 2)) 7)")
	checkSteps(t, "(let x 3 (fun f y i i (+ x (+ 1 2))))", "(fun f y i i (+ 3 (+ 1 2)))")
	// What is stuck in a part that is never evaluated does not matter.
	checkSteps(t, "(if 0 1 (fst 1))", "1")
	checkSteps(t, "(if 5 (call 1 2) (+ 1 1))", "(+ 1 1)", "2")
	checkSteps(t, "(if 0 (if 1 (+ (pair 1 2) 1) 7) (fst 1))", "(if 1 (+ (pair 1 2) 1) 7)", "7")
	checkSteps(t, "(let x (fun f x i i (fst x)) 4)", "4")
	checkSteps(t, "(pair (fun f x i i (fst 1)) (if 1 (snd 2) 3))", "(pair (fun f x i i (fst 1)) 3)")
	checkSteps(t, "(call (fun f x i i (if x 0 (fst x))) 0)", "(if 0 0 (fst 0))", "0")
}

func TestStepsBesideStuckParts(t *testing.T) {
	// Behind one that could take a step, until this is a value.
	checkSteps(t, "(+ (+ 1 2) (fst 1))", "(+ 3 (fst 1))")
	checkSteps(t, "(pair (- 1 2) (pair (+ 3 4) (call 1 2)))", "(pair -1 (pair (+ 3 4) (call 1 2)))", "(pair -1 (pair 7 (call 1 2)))")
	checkSteps(t, "(call (+ 1 2) (+ 3 4))", "(call 3 (+ 3 4))", "(call 3 7)")
	checkSteps(t, "(+ (pair 1 2) (+ 3 4))", "(+ (pair 1 2) 7)")
	checkSteps(t, "(* (fun f x i i x) (let x 1 x))", "(* (fun f x i i x) 1)")
	checkSteps(t, "(if (pair 1 (+ 2 3)) 4 5)", "(if (pair 1 5) 4 5)")
	checkSteps(t, "(let x (+ 1 2) (fst x))", "(let x 3 (fst x))", "(fst 3)")
	checkSteps(t, "(if (- 1 1) (fst 1) 2)", "(if 0 (fst 1) 2)", "(fst 1)")
	// Ahead of one.
	for _, stuck := range []string{"(fst 1)", "(snd (fun f x i i x))", "(call 1 2)", "(+ 1 (pair 1 2))", "(if (pair 1 2) 1 2)"} {
		for _, head := range []string{"+", "-", "*", "call", "pair"} {
			if next, ok := impl.Step("(" + head + " (+ 1 2) " + stuck + ")"); !ok || next != "("+head+" 3 "+stuck+")" {
				t.Errorf("a part behind which %q stands takes a step to %q, %v", stuck, next, ok)
			}
			checkStuck(t, "("+head+" "+stuck+" (+ 1 2))")
			checkStuck(t, "("+head+" "+stuck+" 1)")
		}
	}
}

func TestStuckExprsOfEachKind(t *testing.T) {
	for _, text := range stuckExprs() {
		checkStuck(t, text)
		for _, around := range withinEvaluated() {
			checkStuck(t, strings.Replace(around, "#", text, 1))
		}
	}
	deep := "(fst 1)"
	for range 4 {
		deep = "(pair (pair 1 2) (+ " + deep + " (+ 1 2)))"
	}
	checkStuck(t, deep)
	checkStuck(t, inFsts(impl.DepthMax, "1"))
	checkStuck(t, inFsts(impl.DepthMax-1, "(fun f x i i x)"))
	checkSteps(t, inFsts(impl.DepthMax-1, "(pair 1 2)"), inFsts(impl.DepthMax-2, "1"))
	for _, text := range append([]string{"0", "(pair 1 2)", "(fun f x i i (fst 1))", "(+ 1 2)", "(if 0 1 (fst 1))", "(if 0 (fst 1) 1)", "(let x 1 (fst x))", "(pair (+ 1 2) (fst 1))"}, noClosed()...) {
		if impl.StepStuck(text) {
			t.Errorf("%q is stuck", cut(text))
		}
	}
}

func TestStepsOfCalls(t *testing.T) {
	f := "(fun f x i i (if x 1 (* x (call f (- x 1)))))"
	checkSteps(t, "(call "+f+" 2)",
		"(if 2 1 (* 2 (call "+f+" (- 2 1))))", "(* 2 (call "+f+" (- 2 1)))", "(* 2 (call "+f+" 1))",
		"(* 2 (if 1 1 (* 1 (call "+f+" (- 1 1)))))", "(* 2 (* 1 (call "+f+" (- 1 1))))", "(* 2 (* 1 (call "+f+" 0)))",
		"(* 2 (* 1 (if 0 1 (* 0 (call "+f+" (- 0 1))))))", "(* 2 (* 1 1))", "(* 2 1)", "2")
	// Names that are bound again within the body.
	checkSteps(t, "(call (fun f x i i (let x (+ x 1) (* x x))) 3)", "(let x (+ 3 1) (* x x))", "(let x 4 (* x x))", "(* 4 4)", "16")
	checkSteps(t, "(call (fun f x i i (let f (+ x 1) (* x f))) 3)", "(let f (+ 3 1) (* 3 f))", "(let f 4 (* 3 f))", "(* 3 4)", "12")
	checkStep(t, "(call (fun f x i i (fun f y i i (call f x))) 3)", "(fun f y i i (call f 3))")
	checkStep(t, "(call (fun f x i i (fun x f i i (call x f))) 3)", "(fun x f i i (call x f))")
	checkStep(t, "(call (fun f x i i (fun g x i i (call f x))) 3)", "(fun g x i i (call (fun f x i i (fun g x i i (call f x))) x))")
	checkStep(t, "(call (fun x f i i (pair x f)) 3)", "(pair (fun x f i i (pair x f)) 3)")
	checkStep(t, "(call (fun f x i i (let y f (let f x (pair y f)))) 3)", "(let y (fun f x i i (let y f (let f x (pair y f)))) (let f 3 (pair y f)))")
	// Functions that are passed and returned.
	square := "(fun s y i i (* y y))"
	checkSteps(t, "(call (fun f g (> i i) i (call g (call g 2))) "+square+")", "(call "+square+" (call "+square+" 2))", "(call "+square+" (* 2 2))", "(call "+square+" 4)", "(* 4 4)", "16")
	checkSteps(t, "(call (call (fun f x i (> i i) (fun g y i i (- x y))) 9) 2)", "(call (fun g y i i (- 9 y)) 2)", "(- 9 2)", "7")
	// A let keeps a name for a function that stands in it.
	checkSteps(t, "(let a 5 (let b (fun f x i i (+ x a)) (let a 7 (call b a))))", "(let b (fun f x i i (+ x 5)) (let a 7 (call b a)))", "(let a 7 (call (fun f x i i (+ x 5)) a))", "(call (fun f x i i (+ x 5)) 7)", "(+ 7 5)", "12")
	checkSteps(t, "(call (call (fun f x i (> i i) (let k (+ x 1) (fun g y i i (* k y)))) 2) 5)", "(call (let k (+ 2 1) (fun g y i i (* k y))) 5)", "(call (let k 3 (fun g y i i (* k y))) 5)", "(call (fun g y i i (* 3 y)) 5)", "(* 3 5)", "15")
	// A function whose names are equal is no expression.
	for _, text := range []string{"(call (fun f f i i f) 1)", "(call (fun x x i i (+ x 1)) 1)", "(pair (fun f f i i 1) (+ 1 2))"} {
		checkClosedFails(t, text)
	}
}

// checkClosedFails checks all functions of the chapter for a text that is no closed expression.
func checkClosedFails(t *testing.T, text string) {
	t.Helper()
	checkNoValue(t, text)
	checkStep(t, text, "")
	for _, n := range []int{0, 1, 500, -1, 501} {
		if next, taken, ok := impl.StepMany(text, n); ok || next != "" || taken != 0 {
			t.Errorf("StepMany(%q, %d) is %q, %d, %v", cut(text), n, cut(next), taken, ok)
		}
	}
	for _, fuel := range []int{0, 1, 100, impl.FuelMax, -1, impl.FuelMax + 1} {
		if printed, took, ok := impl.Eval(text, fuel); ok || printed != "" || took != 0 || impl.EvalStuck(text, fuel) {
			t.Errorf("Eval(%q, %d) is %q, %d, %v, and stuck: %v", cut(text), fuel, cut(printed), took, ok, impl.EvalStuck(text, fuel))
		}
	}
	if impl.StepStuck(text) || impl.EvalFuel(text) != -1 {
		t.Errorf("%q is stuck: %v, or takes the fuel %d", cut(text), impl.StepStuck(text), impl.EvalFuel(text))
	}
}

func TestStepsAndEvaluationFailForWhatIsNotClosed(t *testing.T) {
	for _, text := range noClosed() {
		checkClosedFails(t, text)
	}
	for _, text := range []string{"", " ", "(", "()", "(+ 1 2", "(+ 1 2))", " (+ 1 2)", "(+ 1 2) ", "(+  1 2)", "(+ 1 2)\n", "(+ 1 1000)", "(+ 1 -0)", "(Fst 1)", "(step 1)", "\xff", strings.Repeat("(+ 1 ", 1<<17), strings.Repeat("9", 1<<20)} {
		checkClosedFails(t, text)
	}
	r := rand.New(rand.NewSource(15))
	for _, text := range sampleClosed() {
		if other := spoiled(r, text); !isClosed(other) {
			checkClosedFails(t, other)
		}
	}
}

// checkTooLarge checks that the step of an expression fails, although it is neither a value nor stuck.
func checkTooLarge(t *testing.T, text string) {
	t.Helper()
	if !isClosed(text) {
		t.Fatalf("%q is no closed expression", cut(text))
	}
	checkStep(t, text, "")
	checkNoValue(t, text)
	if impl.StepStuck(text) {
		t.Errorf("%q is stuck", cut(text))
	}
	if next, n, ok := impl.StepMany(text, 500); !ok || next != text || n != 0 {
		t.Errorf("%q takes %d steps to %q, %v", cut(text), n, cut(next), ok)
	}
}

func TestStepsThatAreTooLarge(t *testing.T) {
	// They have one atom less than twice as many.
	pairs := func(n int) string { return strings.ReplaceAll(sumOf(n, "1"), "+", "pair") }
	twice := "(pair " + pairs(30) + " " + pairs(30) + ")"
	checkStep(t, "(let a "+pairs(30)+" (pair a a))", twice)
	checkStep(t, "(let a "+pairs(30)+" (fst (pair a a)))", "(fst "+twice+")")
	checkTooLarge(t, "(let a "+pairs(30)+" (fst (snd (pair a a))))")
	checkTooLarge(t, "(let a "+pairs(31)+" (pair a a))")
	checkTooLarge(t, "(let a "+pairs(30)+" "+strings.ReplaceAll(sumOf(29, "a"), "+", "pair")+")")
	checkStep(t, "(call (fun f a i i (pair a a)) "+pairs(30)+")", twice)
	checkTooLarge(t, "(call (fun f a i i (pair a a)) "+pairs(31)+")")
	// The function itself is put, too.
	fun := func(n int) string { return "(fun f x i i (pair f " + pairs(n) + "))" }
	checkStep(t, "(call "+fun(28)+" 1)", "(pair "+fun(28)+" "+pairs(28)+")")
	checkTooLarge(t, "(call "+fun(29)+" 1)")
	// What the part becomes is an expression, but the whole one is none.
	checkStep(t, "(pair (let a "+pairs(15)+" (pair a a)) "+pairs(30)+")", "(pair (pair "+pairs(15)+" "+pairs(15)+") "+pairs(30)+")")
	checkTooLarge(t, "(pair (let a "+pairs(15)+" (pair a a)) "+pairs(31)+")")
	// Too deep ones.
	value := nestedPairs(20)
	checkStep(t, "(let a "+value+" "+inFsts(40, "a")+")", inFsts(40, value))
	checkTooLarge(t, "(let a "+value+" "+inFsts(41, "a")+")")
	checkStep(t, inFsts(20, "(let a "+value+" "+inFsts(20, "a")+")"), inFsts(40, value))
	checkTooLarge(t, inFsts(20, "(let a "+value+" "+inFsts(21, "a")+")"))
	checkTooLarge(t, inFsts(21, "(let a "+value+" "+inFsts(20, "a")+")"))
	// An evaluation keeps what is too large for a step.
	if printed, _, ok := impl.Eval("(let a "+pairs(31)+" (pair a a))", 200); !ok || printed != "(pair "+pairs(31)+" "+pairs(31)+")" {
		t.Errorf("Eval is %q, %v", cut(printed), ok)
	}
}

func TestStepManyAtTheEndsOfItsRange(t *testing.T) {
	text := countdown(166)
	if _, n, why := stepsOf(text, 1000); n != 500 || why != "value" {
		t.Fatalf("there are %d steps, and no more for: %q", n, why)
	}
	for _, c := range []struct {
		text  string
		n     int
		next  string
		taken int
	}{
		{text, 0, text, 0},
		{text, 1, strings.Replace(withPut(itemsOf(itemsOf(text)[1])[5], "x", "166"), "call f", "call "+itemsOf(text)[1], 1), 1},
		{text, 499, "(if 0 0 (call " + itemsOf(text)[1] + " (- 0 1)))", 499},
		{text, 500, "0", 500},
		{"(+ 1 " + text + ")", 500, "(+ 1 0)", 500},
		{"(+ 1 (+ 2 " + text + "))", 500, "(+ 1 (+ 2 0))", 500},
		{"(fst (pair " + countdown(165) + " 1))", 500, "0", 498},
		{"(+ 1 2)", 0, "(+ 1 2)", 0}, {"(+ 1 2)", 1, "3", 1}, {"(+ 1 2)", 2, "3", 1}, {"(+ 1 2)", 500, "3", 1},
		{"7", 0, "7", 0}, {"7", 500, "7", 0}, {"(fst 1)", 0, "(fst 1)", 0}, {"(fst 1)", 500, "(fst 1)", 0},
		{"(+ (* 2 3) (fst 4))", 500, "(+ 6 (fst 4))", 1},
	} {
		if next, taken, ok := impl.StepMany(c.text, c.n); !ok || next != c.next || taken != c.taken {
			t.Errorf("StepMany(%q, %d) is %q, %d, %v, not %q, %d", cut(c.text), c.n, cut(next), taken, ok, cut(c.next), c.taken)
		}
		for _, n := range []int{-1, 501, -500, 1000, 1 << 40, -1 << 63} {
			if next, taken, ok := impl.StepMany(c.text, n); ok || next != "" || taken != 0 {
				t.Errorf("StepMany(%q, %d) is %q, %d, %v", cut(c.text), n, cut(next), taken, ok)
			}
		}
	}
	for _, text := range endless()[:3] {
		if _, taken, ok := impl.StepMany(text, 500); !ok || taken != 500 {
			t.Errorf("StepMany(%q, 500) takes %d steps, %v", text, taken, ok)
		}
	}
}

// A step that would lead to what is no expression ends the way there, and so does what is stuck.
func TestStepManyWhereAStepFails(t *testing.T) {
	fun := "(fun f x i i (+ 1 (call f x)))"
	growing := "(call " + fun + " 0)"
	// Each step has two atoms more than the one ahead, up to 120.
	last, taken, ok := impl.StepMany(growing, 500)
	want := strings.Repeat("(+ 1 ", 54) + growing + strings.Repeat(")", 54)
	if !ok || taken != 54 || last != want || impl.FormSize(last) != impl.ExprMax {
		t.Errorf("%d steps lead to %q of %d atoms, %v", taken, cut(last), impl.FormSize(last), ok)
	}
	checkTooLarge(t, last)
	for _, text := range []string{growing, "(let a (+ 1 2) (pair a (let b " + nestedPairs(20) + " (pair b (pair b b)))))", "(call (fun f x i i (call f (pair x x))) 0)", "(pair (+ 1 2) (fst (- 4 5)))", "(call (fun f x i i (if x (fst x) (call f (+ x 1)))) 0)"} {
		want, taken, why := stepsOf(text, 500)
		if why != "large" && why != "stuck" || taken == 0 {
			t.Fatalf("%q takes %d steps until: %q", text, taken, why)
		}
		for n := range 500 {
			next, got, ok := impl.StepMany(text, n)
			if n >= taken && (!ok || got != taken || next != want) || n < taken && got != n {
				t.Errorf("StepMany(%q, %d) is %q, %d, %v, not %q, %d", cut(text), n, cut(next), got, ok, cut(want), taken)
			}
		}
		if impl.StepStuck(want) != (why == "stuck") {
			t.Errorf("%q is stuck: %v", cut(want), impl.StepStuck(want))
		}
	}
}

// P34, P35 and P37.
func TestStepsAgreeWithTheOracle(t *testing.T) {
	outcomes := map[string]int{}
	for _, text := range sampleClosed() {
		want, why := stepOf(text)
		outcomes[why]++
		checkStep(t, text, want)
		if impl.StepStuck(text) != (why == "stuck") || impl.ValueIs(text) != (why == "value") {
			t.Errorf("%q is stuck: %v, and a value: %v", cut(text), impl.StepStuck(text), impl.ValueIs(text))
		}
		kind, typed := impl.ExprType(nil, nil, text)
		if why == "stuck" {
			checkStuck(t, text)
		}
		if why == "" {
			if typed {
				outcomes["typed"]++
				checkType(t, env{}, want, kind)
			}
			if !impl.ExprClosed(want) {
				t.Errorf("the step of %q leads to %q", cut(text), cut(want))
			}
		}
	}
	for _, why := range []string{"", "typed", "value", "stuck"} {
		if outcomes[why] < 200 {
			t.Errorf("of the samples there are just %d of %q", outcomes[why], why)
		}
	}
}

// P36, and P34 and P35 for all steps of an expression.
func TestManyStepsAgreeWithTheOracle(t *testing.T) {
	for k, text := range sampleClosed() {
		n := []int{0, 1, 2, 3, 7, 20, 100}[k%7]
		want, count, _ := stepsOf(text, n)
		next, taken, ok := impl.StepMany(text, n)
		if !ok || next != want || taken != count || !impl.ExprClosed(next) {
			t.Errorf("StepMany(%q, %d) is %q, %d, %v, not %q, %d", cut(text), n, cut(next), taken, ok, cut(want), count)
		}
		more, further, _ := impl.StepMany(text, n+1)
		step, ok := impl.Step(next)
		switch {
		case taken < n && (ok || further != taken || more != next):
			t.Errorf("behind the %d steps of %q there is one more, to %q", taken, cut(text), cut(step))
		case taken == n && ok && (further != n+1 || more != step):
			t.Errorf("%d steps of %q lead to %q, and one more to %q", further, cut(text), cut(more), cut(step))
		}
		if kind, ok := impl.ExprType(nil, nil, text); ok {
			checkType(t, env{}, next, kind)
			if impl.StepStuck(next) {
				t.Errorf("%q has a type, but is stuck behind %d steps", cut(text), taken)
			}
		}
	}
}

func TestStepsChangeNoArgumentsAndShareNone(t *testing.T) {
	texts := []string{"(pair 100 (fun f12 x i i (+ f12 200)))", "(let a12 (pair 100 200) (fst a12))", "(call (fun f12 x12 i i (pair f12 x12)) 300)", "(if 0 (pair 100 x) 1)"}
	for _, text := range texts {
		text = strings.Clone(text)
		before := strings.Clone(text)
		step, _ := impl.Step(text)
		none, _, _ := impl.StepMany(text, 0)
		one, _, _ := impl.StepMany(text, 1)
		all, _, _ := impl.StepMany(text, 500)
		printed, _ := impl.ValuePrint(text)
		evaluated, _, _ := impl.Eval(text, 100)
		results := []string{step, none, one, all, printed, evaluated}
		for i, result := range results {
			for _, other := range append([]string{text}, results[:i]...) {
				if len(result) > 1 && overlaps(other, result) {
					t.Errorf("%q shares memory with %q", result, other)
				}
			}
		}
		if text != before {
			t.Errorf("the argument %q became %q", before, text)
		}
	}
	numeral := strings.Clone("100")
	none, _, _ := impl.StepMany(numeral, 0)
	printed, _ := impl.ValuePrint(numeral)
	evaluated, _, _ := impl.Eval(numeral, 1)
	for _, result := range []string{none, printed, evaluated} {
		if result != "100" || overlaps(numeral, result) {
			t.Errorf("%q is not a new text", result)
		}
	}
}
