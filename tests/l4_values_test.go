package tests

import (
	"math"
	"math/rand"
	"strconv"
	"strings"
	"testing"

	"loop.example/typedassembly/impl"
)

func TestNumberShortOfSomeNumbers(t *testing.T) {
	cases := map[int]int{
		0: 0, 1: 1, -1: -1, 499: 499, 500: -500, 501: -499, 999: -1, 1000: 0, 1001: 1, 1499: 499, 1500: -500, 1501: -499, 1999: -1, 2000: 0,
		-499: -499, -500: -500, -501: 499, -502: 498, -999: 1, -1000: 0, -1001: -1, -1499: -499, -1500: -500, -1501: 499, -2000: 0,
		998001: 1, -998001: -1, 499999: -1, 500000: 0, 999499: 499, 999500: -500, -999500: -500, -999501: 499, 999999: -1, -999999: 1, 1000000: 0, -1000000: 0,
	}
	for n, want := range cases {
		if got, ok := impl.NumberShort(n); !ok || got != want {
			t.Errorf("NumberShort(%d) is %d, %v, not %d", n, got, ok, want)
		}
	}
	for _, n := range []int{1000001, -1000001, 1000500, -1000500, 1 << 31, -1 << 31, math.MaxInt, math.MinInt, math.MaxInt - 499, math.MinInt + 500} {
		if got, ok := impl.NumberShort(n); ok || got != 0 {
			t.Errorf("NumberShort(%d) is %d, %v", n, got, ok)
		}
	}
}

// P31.
func TestNumberShortAgreesWithTheOracle(t *testing.T) {
	check := func(n int) {
		got, ok := impl.NumberShort(n)
		if !ok || got != shortOf(n) || got < -500 || got > 499 || (n-got)%1000 != 0 {
			t.Errorf("NumberShort(%d) is %d, %v", n, got, ok)
		}
		if again, ok := impl.NumberShort(got); !ok || again != got {
			t.Errorf("the short of %d is %d", got, again)
		}
	}
	for n := -4000; n <= 4000; n++ {
		check(n)
		check(250 * n)
	}
}

// numeralsBeyond are numerals that are no short ones.
func numeralsBeyond() []string {
	return []string{"500", "501", "750", "998", "999", "-501", "-502", "-750", "-998", "-999"}
}

// checkValue checks that a text is a value with a print, by all that chapter 4 tells about values (P32).
func checkValue(t *testing.T, text string, want string) {
	t.Helper()
	printed, ok := impl.ValuePrint(text)
	if !impl.ValueIs(text) || !ok || printed != want {
		t.Errorf("%q is a value: %v, with the print %q, not %q", cut(text), impl.ValueIs(text), cut(printed), cut(want))
	}
	if next, ok := impl.Step(text); ok || next != "" || impl.StepStuck(text) {
		t.Errorf("the value %q takes a step to %q, or is stuck", cut(text), cut(next))
	}
	if next, n, ok := impl.StepMany(text, 500); !ok || next != text || n != 0 {
		t.Errorf("the value %q takes %d steps to %q", cut(text), n, cut(next))
	}
	if printed, _, ok := impl.Eval(text, impl.FuelMax); !ok || printed != want || impl.EvalStuck(text, impl.FuelMax) {
		t.Errorf("the value %q is evaluated to %q, %v", cut(text), cut(printed), ok)
	}
}

// checkNoValue checks that a text is no value.
func checkNoValue(t *testing.T, text string) {
	t.Helper()
	if printed, ok := impl.ValuePrint(text); impl.ValueIs(text) || ok || printed != "" {
		t.Errorf("%q is a value: %v, with the print %q", cut(text), impl.ValueIs(text), cut(printed))
	}
}

func TestValuesAndTheirPrints(t *testing.T) {
	cases := map[string]string{
		"0": "0", "7": "7", "-1": "-1", "499": "499", "-500": "-500",
		"(pair 1 2)":                        "(pair 1 2)",
		"(pair (pair 1 -2) (pair 3 4))":     "(pair (pair 1 -2) (pair 3 4))",
		"(pair 1 (pair 999 (pair -501 0)))": "(pair 1 (pair 999 (pair -501 0)))",
		"(fun f x i i x)":                   "fun",
		"(fun f x i i f)":                   "fun",
		"(fun f x i i (+ f x))":             "fun",
		"(fun f x i i 0)":                   "fun",
		"(fun f x i i (call f x))":          "fun",
		"(fun f x i i (fst 1))":             "fun",
		"(fun f x i i (let y x (+ y f)))":   "fun",
		"(fun f x i i (fun g y i i f))":     "fun",
		"(fun f x (* i i) (> i i) (+ 1 2))": "fun",
		"(pair (fun f x i i x) 999)":        "(pair fun 999)",
		"(pair (fun f x i i (pair 1 2)) (pair (fun x f i i (+ x f)) (fun f x i i f)))": "(pair fun (pair fun fun))",
	}
	for text, want := range cases {
		checkValue(t, text, want)
	}
	for _, numeral := range numeralsBeyond() {
		checkValue(t, numeral, numeral)
		checkValue(t, "(pair "+numeral+" (pair (fun f x i i "+numeral+") "+numeral+"))", "(pair "+numeral+" (pair fun "+numeral+"))")
	}
}

func TestTextsThatAreNoValues(t *testing.T) {
	texts := []string{
		"(+ 1 2)", "(- 1 2)", "(* 1 2)", "(if 0 1 2)", "(let x 1 x)", "(let x 1 2)", "(call (fun f x i i x) 1)", "(fst (pair 1 2))", "(snd (pair 1 2))", "(fst 1)", "(call 1 2)",
		"(let x 1 (fun f x i i x))", "(if 0 (fun f x i i x) 1)", "(fst (fun f x i i x))", "(let x (pair 1 2) (pair 1 2))",
		"(pair (+ 1 2) 3)", "(pair 3 (+ 1 2))", "(pair (fst 1) 1)", "(pair 1 (fst 1))", "(pair (let x 1 x) (let x 1 x))", "(pair (pair 1 (pair 2 (+ 3 4))) 5)", "(pair 5 (pair (pair (if 0 1 2) 3) 4))",
		"(pair (fun f x i i x) (call (fun f x i i x) 1))", "(pair (fun f x i i x) x)", "(fun f f i i f)", "(pair 1 (fun f f i i 1))", "fun", "(pair fun fun)", "(pair 1 fun)",
	}
	for _, text := range append(texts, noClosed()...) {
		checkNoValue(t, text)
	}
}

// nestedPairs is a value with as many pairs within each other, each with a numeral ahead.
func nestedPairs(depth int) string {
	return strings.Repeat("(pair 999 ", depth) + "-501" + strings.Repeat(")", depth)
}

func TestValuesAtTheLimits(t *testing.T) {
	for _, text := range []string{nestedPairs(1), nestedPairs(59), strings.ReplaceAll(sumOf(60, "999"), "+", "pair")} {
		checkValue(t, text, text)
	}
	wide := wideFuns(sumOf(11, "x"))
	checkValue(t, wide, "fun")
	checkValue(t, inFuns(23), "fun")
	checkValue(t, "(pair "+nestedPairs(40)+" (fun f x i i x))", "(pair "+nestedPairs(40)+" fun)")
	for _, text := range []string{nestedPairs(60), nestedPairs(61), strings.ReplaceAll(sumOf(61, "999"), "+", "pair"), wideFuns("(snd " + sumOf(11, "x") + ")"), inFuns(24)} {
		checkNoValue(t, text)
	}
}

// P32 and P33.
func TestValuesAgreeWithTheOracle(t *testing.T) {
	values := 0
	for _, text := range append(sampleClosed(), sampleExprTexts()...) {
		if !isValueText(text) {
			checkNoValue(t, text)
			continue
		}
		values++
		checkValue(t, text, withFunsAs(text, "fun"))
		switch head := impl.ExprHead(text); head {
		case "number":
			checkValue(t, text, text)
		case "fun":
			checkValue(t, text, "fun")
		case "pair":
			kids, _ := impl.ExprKids(text)
			first, _ := impl.ValuePrint(kids[0])
			second, _ := impl.ValuePrint(kids[1])
			checkValue(t, text, "(pair "+first+" "+second+")")
		default:
			t.Errorf("%q is a value", cut(text))
		}
	}
	if values < 200 {
		t.Errorf("just %d samples are values", values)
	}
}

// P30.
func TestExprsOfTypesAreClosedValues(t *testing.T) {
	r := rand.New(rand.NewSource(13))
	kinds := []string{"i", "(* i i)", "(> i i)", "(* (> i i) (* i i))", wideType("*", 15), wideType(">", 15)}
	for range 300 {
		kinds = append(kinds, randomWideType(r, 1+2*r.Intn(8)))
	}
	for kind := range smallTypes() {
		kinds = append(kinds, kind)
	}
	for _, kind := range kinds {
		text, ok := impl.ExprOf(kind)
		if !ok || !impl.ExprClosed(text) || !isValueText(text) {
			t.Errorf("ExprOf(%q) is %q, %v", kind, text, ok)
		}
		checkType(t, env{}, text, kind)
		checkValue(t, text, withFunsAs(text, "fun"))
	}
}

func TestAllNumeralsAreValues(t *testing.T) {
	for n := -1100; n <= 1100; n++ {
		text := strconv.Itoa(n)
		if -999 <= n && n <= 999 {
			checkValue(t, text, text)
		} else {
			checkNoValue(t, text)
		}
	}
}
