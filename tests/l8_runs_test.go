package tests

import (
	"math"
	"strconv"
	"strings"
	"testing"

	"loop.example/typedassembly/impl"
)

// checkCompileRun checks the print of what is compiled, or that there is none if it is "".
func checkCompileRun(t *testing.T, text string, want string) {
	t.Helper()
	if printed, ok := impl.CompileRun(text); ok != (want != "") || printed != want {
		t.Errorf("CompileRun(%q) is %q, %v, not %q", cut(text), cut(printed), ok, cut(want))
	}
}

// checkAgrees checks with which fuel CompileAgrees holds: with just as much as a number tells and more, up to FuelMax, or with none if it is -1.
func checkAgrees(t *testing.T, text string, least int) {
	t.Helper()
	for _, fuel := range []int{math.MinInt, -impl.FuelMax, -2, -1, 0, 1, 2, least - 1, least, least + 1, (least + impl.FuelMax) / 2, impl.FuelMax - 1, impl.FuelMax, impl.FuelMax + 1, 2 * impl.FuelMax, 1 << 40, math.MaxInt} {
		want := least >= 0 && least <= fuel && fuel <= impl.FuelMax
		if impl.CompileAgrees(text, fuel) != want {
			t.Errorf("CompileAgrees(%q, %d) is %v", cut(text), fuel, !want)
		}
	}
}

// printsOfExprs are expressions of every kind with their prints.
func printsOfExprs() map[string]string {
	return map[string]string{
		"0": "0", "-999": "-999", "999": "999", "(+ 499 1)": "-500", "(- -500 1)": "499", "(* 999 999)": "1", "(+ 1 2)": "3", "(- 1 2)": "-1", "(* 3 -4)": "-12",
		"(pair 1 2)": "(pair 1 2)", "(pair (pair 1 2) (pair 3 (pair 4 5)))": "(pair (pair 1 2) (pair 3 (pair 4 5)))", "(fst (pair 1 2))": "1", "(snd (pair 1 2))": "2", "(snd (fst (pair (pair 1 2) 3)))": "2",
		"(fun f x i i x)": "fun", "(pair (fun f x i i x) 1)": "(pair fun 1)", "(pair 1 (fun f x i i f))": "", "(pair (fun f x i i (call f x)) (fun f x i i x))": "(pair fun fun)",
		"(if 0 1 2)": "1", "(if 1 1 2)": "2", "(if -1 1 2)": "2", "(if 999 1 2)": "2", "(if (+ 500 500) 1 2)": "1", "(if (- 1 1) (+ 1 2) (* 3 4))": "3", "(if 0 (fun f x i i x) (fun f x i i 1))": "fun",
		"(let a 5 a)": "5", "(let a 5 (+ a a))": "10", "(let a 5 (let b a (- b 1)))": "4", "(let a 1 2)": "2",
		// Names that are bound again.
		"(let a 1 (let a (+ a 1) (let a (* a 3) a)))": "6", "(let a 1 (+ (let a 2 a) a))": "3", "(let a 1 (let b (let a 5 (+ a 1)) (- a b)))": "-5", "(let x0 1 (let y0 2 (let x1 (+ x0 y0) (* x1 x1))))": "9",
		"(let a 5 (let b (fun f x i i (+ x a)) (let a 7 (call b a))))": "12", "(let f 1 (call (fun f x i i (if x 9 (call f 0))) f))": "9", "(call (fun f x i i (let f (+ x 1) (let x f (* f x)))) 4)": "25",
		"(call (fun f x i i (let x (+ x 1) (let x (* x 2) x))) 4)": "10", "(let x 1 (call (fun f x i i (let x (if x x 5) (+ x 1))) x))": "6",
		// Functions.
		"(call (fun f x i i (* x x)) 12)": "144", "(call (fun f x i i (if x 1 (* x (call f (- x 1))))) 5)": "120", "(call (fun f x i i (if x 0 (if (- x 1) 1 (+ (call f (- x 1)) (call f (- x 2)))))) 10)": "55",
		"(call (call (fun f x i (> i i) (fun g y i i (- x y))) 9) 2)": "7", "(call (fun f x (> i i) i (call x (call x 3))) (fun f x i i (* x x)))": "81",
		"(let a 7 (call (call (fun f x i (> i i) (if x (fun g y i i (+ y a)) (call f (- x 1)))) 3) 5))": "12", "(call (fun f x i (* i i) (if x (pair 0 1) (let a (call f (- x 1)) (pair (snd a) (+ (fst a) (snd a)))))) 9)": "(pair 34 55)",
		"(call (fun f x (* i i) i (if (fst x) (snd x) (call f (pair (- (fst x) 1) (+ (snd x) (fst x)))))) (pair 5 100))": "115", "(let f (fun f x i i (+ x 1)) (let g (fun g x i i (call f (call f x))) (call g (call g 1))))": "5",
		"(let a 1 (let b 2 (let c 3 (call (fun f x i i (- (* c 100) (- (* b 10) (- a x)))) 4))))": "277", "(let a (pair 1 2) (call (fun f x (* i i) (* i i) (pair (snd x) (fst a))) a))": "(pair 2 1)",
		"(fst (call (fun f x i (* (> i i) i) (pair (fun g y i i (* x y)) x)) 3))": "fun", "(call (fst (call (fun f x i (* (> i i) i) (pair (fun g y i i (* x y)) x)) 3)) 4)": "12",
		// Rests of calls and of if.
		"(+ (if 0 1 2) (if 1 3 4))": "5", "(let a (if (if 0 1 0) 5 6) (* a (if a 1 2)))": "12", "(+ (call (fun f x i i (+ x 1)) 1) (* (call (fun f x i i (* x 2)) 5) (if 0 3 4)))": "32", "(pair (if 1 2 3) (pair (call (fun f x i i x) 4) (if 0 5 6)))": "(pair 3 (pair 4 5))",
		"(let a (if 1 2 (let b (if 0 7 8) (+ b b))) (let c (if a 0 a) (pair a c)))": "(pair 14 14)", "(if (call (fun f x i i (- x 3)) 3) (call (fun f x i i (+ x 1)) 1) (fst (pair 1 2)))": "2",
	}
}

func TestCompileRunOfSomeExprs(t *testing.T) {
	for text, want := range printsOfExprs() {
		checkCompileRun(t, text, want)
		print, took, _ := evalOf(text, impl.FuelMax)
		if want == "" {
			took = -1
		} else if print != want {
			t.Errorf("the oracle evaluates %q to %q", text, print)
		}
		checkAgrees(t, text, took)
	}
}

// longRun takes 27 steps, 20 more for each time that it calls itself, and 1 more for each numeral ahead of it.
func longRun(times int, ahead int) string {
	return inConsts(ahead, "(call (fun f x i i (if x 0 "+inConsts(7, "(call f (- x 1))")+")) "+strconv.Itoa(times)+")")
}

func TestCompileRunAtTheLimit(t *testing.T) {
	cases := []struct {
		text  string
		steps int
	}{
		{longRun(0, 0), 27}, {longRun(0, 5), 32}, {longRun(1, 0), 47}, {longRun(499, 0), 10007},
		// Down from -2 there are 998 numbers, by way of -500 and 499.
		{longRun(-2, 0), 19987}, {longRun(-2, 12), 19999}, {longRun(-2, 13), 20000}, {longRun(-2, 14), 20001}, {longRun(-1, 0), 20007}, {longRun(-1, 9), 20016},
	}
	for _, c := range cases {
		_, steps, end := ranOf(compiledOf(c.text), 2*impl.RunMax)
		if steps != c.steps || end != "done" {
			t.Fatalf("%q takes %d steps, to %q", c.text, steps, end)
		}
		want := "0"
		if c.steps > impl.RunMax {
			want = ""
		}
		checkCompileRun(t, c.text, want)
	}
	endless := []string{
		"(call (fun f x i i (call f x)) 0)", "(call (fun f x i i (+ 1 (call f x))) 0)", "(call (fun f x i i (if x (call f 1) (call f 0))) 9)", "(call (fun f x i (* i i) (pair x (fst (call f x)))) 0)",
		"(let a (call (fun f x i i (call f (- x 1))) 0) 1)", "(if 0 (call (fun f x i i (call f x)) 0) 2)", "(fst (pair 1 (call (fun f x i i (call f x)) 0)))", "(let a 5 (call (fun f x i i (let b (call f a) (+ a b))) a))",
	}
	for _, text := range endless {
		if _, ok := impl.Compile(text); !ok {
			t.Errorf("Compile(%q) fails", text)
		}
		checkCompileRun(t, text, "")
		checkAgrees(t, text, -1)
	}
	checkCompileRun(t, "(if 0 2 (call (fun f x i i (call f x)) 0))", "2")
	checkCompileRun(t, "(let a (fun f x i i (call f x)) 3)", "3")
}

func TestCompileAgrees(t *testing.T) {
	sums := func(n int, text string) string { return strings.Repeat("(+ 0 ", n) + text + strings.Repeat(")", n) }
	// Both have a result.
	for text, least := range map[string]int{
		"7": 1, "(+ 1 2)": 3, "(fun f x i i (call f x))": 1, "(let x (+ 1 2) (+ x x))": 7, "(if 0 (+ 1 2) 3)": 5, "(pair (fun f x i i x) (pair (+ 1 2) 4))": 7,
		countdown(0): 6, countdown(100): 706, countdown(284): 1994, sums(3, countdown(284)): 2000,
	} {
		checkAgrees(t, text, least)
	}
	// What is compiled has a result alone: it takes too much fuel.
	for _, text := range []string{countdown(285), countdown(499), sums(4, countdown(284)), longRun(400, 0)} {
		checkCompileRun(t, text, "0")
		checkAgrees(t, text, -1)
	}
	// An evaluation has a result alone: there are too many registers, atoms, blocks or instructions, or there is no type.
	for _, text := range []string{
		inConsts(34, "b"), sumOf(26, "1"), "(fun f x i i " + inIfs(38, "x x", "x") + ")", "(let a 0 " + inIfs(32, "0 a", inIfs(6, "a a", "a")) + ")",
		"(if 0 1 (fst 2))", "(fst (pair 1 (pair 2 (fun f x i i f))))", "(let a (fun f x i i (fst x)) 1)", "(if 0 1 (pair 1 2))",
	} {
		if _, _, ok := impl.Eval(text, impl.FuelMax); !ok {
			t.Errorf("Eval(%q) fails", cut(text))
		}
		checkNotCompiled(t, text)
		checkAgrees(t, text, -1)
	}
}

// checkCompiledSample is P73 to P80 for one expression.
func checkCompiledSample(t *testing.T, text string) string {
	t.Helper()
	want := compiledOf(text)
	if want == nil {
		checkNotCompiled(t, text)
		return "none"
	}
	checkCompiled(t, text, want)
	plain, _ := impl.ExprPlain(text)
	if program, ok := impl.Compile(plain); !ok || !sameProgram(program, want) {
		t.Errorf("Compile(%q) is not that of its plain one", cut(text))
	}
	if further := impl.CompileSize("(pair " + text + " 0)"); further != -1 && further <= impl.CompileSize(text) {
		t.Errorf("CompileSize of %q in a pair is %d", cut(text), further)
	}
	print, took, why := evalOf(text, impl.FuelMax)
	if why != "" {
		return checkCompiledOnly(t, text, want)
	}
	checkCompileRun(t, text, print)
	if impl.CompileAgrees(text, took-1) || !impl.CompileAgrees(text, took) {
		t.Errorf("CompileAgrees(%q) does not hold with %d, or does with less", cut(text), took)
	}
	steps, _, _ := impl.StepMany(text, 1+len(text)%5)
	normal, _ := impl.NormalOf(text)
	for _, other := range []string{steps, normal} {
		if printed, ok := impl.CompileRun(other); ok && printed != print {
			t.Errorf("CompileRun(%q) is %q, and of %q it is %q", cut(text), print, cut(other), printed)
		}
	}
	return "both"
}

// checkCompiledOnly is for one that is not evaluated with all the fuel.
func checkCompiledOnly(t *testing.T, text string, program []impl.Block) string {
	t.Helper()
	if impl.CompileAgrees(text, impl.FuelMax) || impl.EvalStuck(text, impl.FuelMax) {
		t.Errorf("CompileAgrees(%q) holds, or it is stuck", cut(text))
	}
	s, _, end := ranOf(program, impl.RunMax)
	if end != "done" {
		checkCompileRun(t, text, "")
		return "endless"
	}
	checkCompileRun(t, text, printIn(s, haltedWord(program, s)))
	return "compiled"
}

func TestCompileAgreesWithTheOracle(t *testing.T) {
	ends := map[string]int{}
	for _, text := range sampleCompilings() {
		ends[checkCompiledSample(t, text)]++
	}
	for end, least := range map[string]int{"both": 700, "endless": 8, "none": 20} {
		if ends[end] < least {
			t.Errorf("of the samples there are just %d of %q", ends[end], end)
		}
	}
}
