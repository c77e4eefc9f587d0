package tests

import (
	"strings"
	"testing"

	"loop.example/typedassembly/impl"
)

// checkEval checks the print of an expression and the fuel that it takes, with just as much, with less and with more (P38).
func checkEval(t *testing.T, text string, want string, least int) {
	t.Helper()
	if !isClosed(text) {
		t.Fatalf("%q is no closed expression", cut(text))
	}
	for _, fuel := range []int{least, least + 1, (least + impl.FuelMax) / 2, impl.FuelMax} {
		fuel = min(fuel, impl.FuelMax)
		if printed, took, ok := impl.Eval(text, fuel); !ok || printed != want || took != least {
			t.Errorf("Eval(%q, %d) is %q, %d, %v, not %q, %d", cut(text), fuel, cut(printed), took, ok, cut(want), least)
		}
		if impl.EvalStuck(text, fuel) {
			t.Errorf("EvalStuck(%q, %d) holds", cut(text), fuel)
		}
	}
	for _, fuel := range []int{least - 1, least / 2, 0} {
		checkNoEval(t, text, fuel, false)
	}
	checkNoFuel(t, text)
	if fuel := impl.EvalFuel(text); fuel != least {
		t.Errorf("EvalFuel(%q) is %d, not %d", cut(text), fuel, least)
	}
}

// checkNoEval checks that an evaluation fails, and whether it is because of a stuck expression.
func checkNoEval(t *testing.T, text string, fuel int, stuck bool) {
	t.Helper()
	if printed, took, ok := impl.Eval(text, fuel); ok || printed != "" || took != 0 {
		t.Errorf("Eval(%q, %d) is %q, %d, %v", cut(text), fuel, cut(printed), took, ok)
	}
	if impl.EvalStuck(text, fuel) != stuck {
		t.Errorf("EvalStuck(%q, %d) is %v", cut(text), fuel, !stuck)
	}
}

// checkNoFuel checks the numbers that are no fuel.
func checkNoFuel(t *testing.T, text string) {
	t.Helper()
	for _, fuel := range []int{-1, -2, -impl.FuelMax, impl.FuelMax + 1, 2 * impl.FuelMax, 1 << 40, -1 << 63} {
		checkNoEval(t, text, fuel, false)
	}
}

// checkEvalStuck checks that an evaluation comes to a stuck expression with some fuel and more, and with less does not (P40).
func checkEvalStuck(t *testing.T, text string, least int) {
	t.Helper()
	if !isClosed(text) {
		t.Fatalf("%q is no closed expression", cut(text))
	}
	for _, fuel := range []int{least, least + 1, (least + impl.FuelMax) / 2, impl.FuelMax} {
		checkNoEval(t, text, min(fuel, impl.FuelMax), true)
	}
	for _, fuel := range []int{least - 1, least / 2, 0} {
		checkNoEval(t, text, fuel, false)
	}
	checkNoFuel(t, text)
	if impl.EvalFuel(text) != -1 || impl.ExprTyped(text) {
		t.Errorf("%q has the fuel %d, and is typed: %v", cut(text), impl.EvalFuel(text), impl.ExprTyped(text))
	}
	if next, _, _ := impl.StepMany(text, 500); impl.ValueIs(next) {
		t.Errorf("%q comes to the value %q", cut(text), cut(next))
	}
}

// checkNoEnd checks that no fuel suffices, but nothing is stuck either.
func checkNoEnd(t *testing.T, text string) {
	t.Helper()
	if !isClosed(text) {
		t.Fatalf("%q is no closed expression", cut(text))
	}
	for _, fuel := range []int{0, 1, 2, 10, 500, impl.FuelMax - 1, impl.FuelMax} {
		checkNoEval(t, text, fuel, false)
	}
	checkNoFuel(t, text)
	if fuel := impl.EvalFuel(text); fuel != -1 {
		t.Errorf("EvalFuel(%q) is %d", cut(text), fuel)
	}
}

func TestFuelOfEachHead(t *testing.T) {
	if impl.FuelMax != 2000 {
		t.Errorf("the greatest fuel is %d", impl.FuelMax)
	}
	checkEval(t, "0", "0", 1)
	checkEval(t, "-999", "-999", 1)
	checkEval(t, "(fun f x i i (fst (+ 1 2)))", "fun", 1)
	for _, head := range []string{"+", "-", "*"} {
		checkEval(t, "("+head+" 7 0)", map[string]string{"+": "7", "-": "7", "*": "0"}[head], 3)
		checkEval(t, "("+head+" ("+head+" 0 0) ("+head+" 0 0))", "0", 7)
	}
	checkEval(t, "(pair 1 2)", "(pair 1 2)", 3)
	checkEval(t, "(pair (fun f x i i x) (pair (+ 1 2) 4))", "(pair fun (pair 3 4))", 7)
	checkEval(t, "(fst (pair 1 2))", "1", 4)
	checkEval(t, "(snd (pair 1 2))", "2", 4)
	checkEval(t, "(if 0 1 2)", "1", 3)
	checkEval(t, "(if 0 (+ 1 2) (fst 1))", "3", 5)
	checkEval(t, "(if 1 (fst 1) (+ 1 2))", "3", 5)
	checkEval(t, "(if -501 1 2)", "2", 3)
	checkEval(t, "(let x 1 2)", "2", 3)
	checkEval(t, "(let x 1 x)", "1", 3)
	checkEval(t, "(let x (+ 1 2) (+ x x))", "6", 7)
	checkEval(t, "(let x (pair (+ 1 2) 4) (pair x (fst x)))", "(pair (pair 3 4) 3)", 10)
	checkEval(t, "(call (fun f x i i 7) 4)", "7", 4)
	checkEval(t, "(call (fun f x i i x) 4)", "4", 4)
	checkEval(t, "(call (fun f x i i f) 4)", "fun", 4)
	checkEval(t, "(call (fun f x i i (+ x 1)) (* 2 3))", "7", 8)
}

func TestEvalOfNumeralsBeyondTheShortOnes(t *testing.T) {
	for _, n := range numeralsBeyond() {
		checkEval(t, n, n, 1)
		checkEval(t, "(pair "+n+" (+ "+n+" 0))", "(pair "+n+" "+reckoned("+", n, "0")+")", 5)
		checkEval(t, "(let x "+n+" (pair x x))", "(pair "+n+" "+n+")", 5)
		checkEval(t, "(call (fun f x i i x) "+n+")", n, 4)
		checkEval(t, "(snd (pair 1 "+n+"))", n, 4)
		checkEval(t, "(if "+n+" 1 2)", "2", 3)
		checkEval(t, "(if 0 "+n+" 2)", n, 3)
		checkEval(t, "(let x "+n+" (if (- x x) 1 2))", "1", 7)
	}
	checkEval(t, "(if (+ 999 1) 1 2)", "1", 5)
	checkEval(t, "(if (* 500 2) 1 2)", "1", 5)
	checkEval(t, "(if (+ 499 1) 1 2)", "2", 5)
	checkEval(t, "(call (fun f x i i (if x 1 (* x (call f (- x 1))))) 7)", "40", 69)
	checkEval(t, "(let x (* 999 999) (let y (- 0 500) (pair x y)))", "(pair 1 -500)", 11)
}

func TestEvalOfCalls(t *testing.T) {
	checkEval(t, "(call (fun f x i i (if x 1 (* x (call f (- x 1))))) 5)", "120", 51)
	checkEval(t, countdown(0), "0", 6)
	checkEval(t, countdown(10), "0", 76)
	checkEval(t, "(call (fun f x i i (if x 0 (if (- x 1) 1 (+ (call f (- x 1)) (call f (- x 2)))))) 6)", "8", 278)
	// Names that are bound again within the body.
	checkEval(t, "(call (fun f x i i (let x (+ x 1) (* x x))) 3)", "16", 10)
	checkEval(t, "(call (fun f x i i (let f (+ x 1) (* x f))) 3)", "12", 10)
	checkEval(t, "(call (fun f x i i (+ (let x 5 x) x)) 3)", "8", 8)
	checkEval(t, "(call (call (fun f x i i (fun f y i i (if y x (call f (- y 1))))) 3) 2)", "3", 23)
	checkEval(t, "(call (call (fun f x i i (fun x f i i (if f f (call x 0)))) 3) 2)", "0", 14)
	checkEval(t, "(call (fun x f i i (if f f (call x 0))) 3)", "0", 11)
	// Functions that are passed and returned.
	checkEval(t, "(call (fun f g (> i i) i (call g (call g 2))) (fun s y i i (* y y)))", "16", 14)
	checkEval(t, "(call (call (fun f x i (> i i) (fun g y i i (- x y))) 9) 2)", "7", 9)
	checkEval(t, "(let a (call (fun f x i i (pair x (fun g y i i (+ x y)))) 4) (let x 100 (call (snd a) 3)))", "7", 16)
	// The value that a name had where a function stood is kept, whatever is bound to it where it is called.
	checkEval(t, "(let a 5 (let b (fun f x i i (+ x a)) (let a 7 (call b a))))", "12", 12)
	checkEval(t, "(let f 1 (let g (fun h x i i (+ x f)) (call (fun f x i i (call g x)) 2)))", "3", 13)
	checkEval(t, "(let x 1 (let g (fun f y i i x) (call (fun f x i i (call g 0)) 2)))", "1", 11)
	checkEval(t, "(call (call (fun f x i (> i i) (let k (+ x 1) (fun g y i i (* k y)))) 2) 5)", "15", 13)
	checkEval(t, "(let k 1 (pair (let f (fun g y i i (+ y k)) (let k 2 (call f 10))) k))", "(pair 11 1)", 14)
	checkEval(t, "(let m (fun f x i i (fun g y i i (pair x y))) (let a (call m 1) (let b (call m 2) (pair (call a 3) (call b 4)))))", "(pair (pair 1 3) (pair 2 4))", 25)
	checkEval(t, "(call (fun f x i i (if x (fun g y i i (+ y 1)) (call f (- x 1)))) 3)", "fun", 27)
}

func TestEvalOfParts(t *testing.T) {
	// What is stuck is met in order, and not in parts that are not evaluated.
	checkEval(t, "(let x (fun f x i i (fst x)) 4)", "4", 3)
	checkEval(t, "(pair (fun f x i i (fst 1)) (if 1 (snd 2) 3))", "(pair fun 3)", 5)
	checkEval(t, "(call (fun f x i i (if x 0 (fst x))) 0)", "0", 6)
	checkEval(t, "(if 0 1 (call (fun f x i i (call f x)) 0))", "1", 3)
	checkEval(t, "(let x (fun g y i i (call (fun f x i i (call f x)) 0)) 1)", "1", 3)
	for text, least := range map[string]int{
		"(fst 1)": 2, "(snd (fun f x i i x))": 2, "(+ 1 (pair 1 2))": 5, "(+ (pair 1 2) 1)": 5, "(- (fun f x i i x) 1)": 3, "(* 1 (fun f x i i x))": 3, "(call 1 2)": 3, "(call (pair 1 2) (+ 1 2))": 7,
		"(if (pair 1 2) 3 4)": 4, "(if (fun f x i i x) 3 4)": 2, "(if 0 (fst 1) 2)": 4, "(if 1 2 (fst 1))": 4, "(let x (fst 1) 2)": 3, "(let x 1 (fst x))": 4, "(call (fun f x i i (fst x)) 1)": 5,
		"(+ (fst 1) (+ 1 2))": 3, "(+ (+ 1 2) (fst 1))": 6, "(pair 1 (fst 1))": 4, "(pair (fst 1) (call (fun f x i i (call f x)) 0))": 3, "(call (fst 1) (snd 2))": 3, "(call 1 (snd 2))": 4, "(fst (fst (pair 1 2)))": 5,
		"(if (if (fst 1) 2 3) 4 5)": 4, "(let x (let y (fst 1) y) x)": 4, "(call (fun f x i i (if x (fst x) (call f (- x 1)))) 30)": 217, "(+ (pair 1 2) (fst 1))": 6,
	} {
		checkEvalStuck(t, text, least)
	}
	for _, text := range stuckExprs() {
		_, least, _ := evalOf(text, impl.FuelMax)
		checkEvalStuck(t, text, least)
	}
}

func TestEvalAtTheEndsOfTheFuel(t *testing.T) {
	around := func(adds int, text string) string {
		return strings.Repeat("(+ 0 ", adds) + text + strings.Repeat(")", adds)
	}
	checkEval(t, countdown(284), "0", 1994)
	checkEval(t, around(2, countdown(284)), "0", 1998)
	checkEval(t, "(if 7 7 "+around(2, countdown(284))+")", "0", 2000)
	checkEval(t, around(3, countdown(284)), "0", 2000)
	checkNoEnd(t, "(fst (pair "+around(2, countdown(284))+" 0))") // 2001
	checkNoEnd(t, around(4, countdown(284)))                      // 2002
	checkNoEnd(t, countdown(285))                                 // 2001
	stuck := "(call (fun f x i i (if x (fst x) (call f (- x 1)))) 284)"
	checkEvalStuck(t, stuck, 1995)
	checkEvalStuck(t, inFsts(5, stuck), 2000)
	checkNoEnd(t, inFsts(6, stuck))
	for _, text := range endless() {
		checkNoEnd(t, text)
	}
}

// printedWith is an expression whose print has as many bytes as a number tells, from 28 on. A pair has 8 bytes and those of both parts: with 8 bytes
// more for each print, that of a pair is the sum of both.
func printedWith(bytes int) string {
	return printedSum(bytes + 8)
}

func printedSum(sum int) string {
	leaves := map[int]string{9: "1", 10: "10", 11: "(fun f x i i x)", 12: "-100"}
	if leaf := leaves[sum]; leaf != "" {
		return leaf
	}
	if half := sum / 2; sum%2 == 0 && half >= 9 {
		if text := printedSum(half); text != "" {
			return "(let a " + text + " (pair a a))"
		}
	}
	for n := 9; n <= 12 && n <= sum-18; n++ {
		if (sum-n)%2 != 0 {
			continue
		}
		if text := printedSum((sum - n) / 2); text != "" {
			return "(let a " + text + " (pair " + leaves[n] + " (pair a a)))"
		}
	}
	return ""
}

func TestPrintsAtTheLimit(t *testing.T) {
	for _, bytes := range []int{28, 100, 1000, 11000, impl.FormMax - 2, impl.FormMax - 1, impl.FormMax} {
		text := printedWith(bytes)
		want, least, _ := evalOf(text, impl.FuelMax)
		if len(want) != bytes {
			t.Fatalf("the print of %q has %d bytes", text, len(want))
		}
		checkEval(t, text, want, least)
	}
	for _, bytes := range []int{impl.FormMax + 1, impl.FormMax + 2, impl.FormMax + 3, impl.FormMax + 8, 2 * impl.FormMax, 10 * impl.FormMax} {
		text := printedWith(bytes)
		_, least, why := evalOf(text, impl.FuelMax)
		if why != "long" {
			t.Fatalf("the print of %q is not too long", text)
		}
		checkNoEval(t, text, least, false)
		checkNoEnd(t, text)
		checkEval(t, "(let b "+text+" 7)", "7", least+2)
		checkEval(t, "(let b "+text+" (fun f x i i b))", "fun", least+2)
	}
	for _, text := range []string{doubled(19, "1"), doubled(19, "(fun f x i i x)"), doubled(22, "999"), doubledByCalls(40, "0"), doubledByCalls(64, "(pair 1 2)"), doubledByCalls(100, "-999")} {
		if _, _, why := evalOf(text, impl.FuelMax); why != "long" {
			t.Fatalf("the print of %q is not too long, but: %q", text, why)
		}
		checkNoEnd(t, text)
	}
	_, least, _ := evalOf(doubledByCalls(100, "5"), impl.FuelMax)
	checkEval(t, "(let b "+doubledByCalls(100, "5")+" (let c (fst (snd b)) 5))", "5", least+6)
}

// A print can be deeper than a form.
func TestPrintsThatAreNoForms(t *testing.T) {
	text := "(call (fun f x i i (if x 0 (pair x (call f (- x 1))))) 200)"
	printed, took, ok := impl.Eval(text, impl.FuelMax)
	want, least, _ := evalOf(text, impl.FuelMax)
	if !ok || printed != want || took != least || impl.FormValid(printed) || !strings.HasPrefix(printed, "(pair 200 (pair 199 ") || depthOf(printed) != 200 {
		t.Errorf("Eval is %q, %d, %v", cut(printed), took, ok)
	}
	checkEval(t, text, want, least)
}

// P38 to P41, and P35 with all the fuel.
func TestEvalAgreesWithTheOracle(t *testing.T) {
	outcomes := map[string]int{}
	for _, text := range sampleClosed() {
		want, took, why := evalOf(text, impl.FuelMax)
		outcomes[why]++
		typed := impl.ExprTyped(text)
		switch {
		case why == "stuck":
			checkEvalStuck(t, text, took)
		case why != "":
			checkNoEnd(t, text)
		default:
			checkEval(t, text, want, took)
			if typed {
				outcomes["typed"]++
				checkPrintOfType(t, text, want)
			}
			if value, _, _ := impl.StepMany(text, 500); impl.ValueIs(value) {
				outcomes["stepped"]++
				checkValue(t, value, want)
			}
		}
		plain, _ := impl.ExprPlain(text)
		if impl.EvalFuel(plain) != impl.EvalFuel(text) || impl.EvalStuck(plain, impl.FuelMax) != (why == "stuck") {
			t.Errorf("%q takes the fuel %d, and its plain one %d", cut(text), impl.EvalFuel(text), impl.EvalFuel(plain))
		}
	}
	for why, least := range map[string]int{"": 500, "typed": 500, "stepped": 500, "stuck": 400, "fuel": 50, "long": 3} {
		if outcomes[why] < least {
			t.Errorf("of the samples there are just %d of %q", outcomes[why], why)
		}
	}
}

// checkPrintOfType is P39.
func checkPrintOfType(t *testing.T, text string, printed string) {
	t.Helper()
	kind, _ := impl.ExprType(nil, nil, text)
	_, _, fun := impl.TypeFun(kind)
	if numeralOnly.MatchString(printed) != (kind == "i") || (printed == "fun") != fun || strings.HasPrefix(printed, "(") != strings.HasPrefix(kind, "(* ") {
		t.Errorf("%q has the type %q and the print %q", cut(text), kind, cut(printed))
	}
}

// Each fuel from none to more than enough.
func TestEvalWithEachFuel(t *testing.T) {
	for _, text := range []string{"(+ (* 2 3) 4)", "(call (fun f x i i (if x 1 (* x (call f (- x 1))))) 5)", "(let a (pair 1 2) (+ (fst a) (snd a)))", "(+ (+ 1 2) (fst 1))", "(call (fun f x i i (if x (fst x) (call f (- x 1)))) 9)", doubled(8, "1")} {
		want, least, why := evalOf(text, impl.FuelMax)
		for fuel := range 2 * least {
			if fuel < least || why != "" {
				checkNoEval(t, text, fuel, why == "stuck" && fuel >= least)
				continue
			}
			if printed, took, ok := impl.Eval(text, fuel); !ok || printed != want || took != least || impl.EvalStuck(text, fuel) {
				t.Errorf("Eval(%q, %d) is %q, %d, %v", cut(text), fuel, cut(printed), took, ok)
			}
		}
	}
}
