package tests

import (
	"math/rand"
	"slices"
	"strconv"
	"strings"
	"sync"
	"testing"

	"loop.example/typedassembly/impl"
)

// shortOf is the short of a number, counted down or up to it.
func shortOf(n int) int {
	for n > 499 {
		n -= 1000
	}
	for n < -500 {
		n += 1000
	}
	return n
}

// withFunsAs is an expression with another text for each fun that is not within a further one.
func withFunsAs(text string, by string) string {
	var out strings.Builder
	for at := 0; at < len(text); at++ {
		if strings.HasPrefix(text[at:], "(fun ") {
			out.WriteString(by)
			at += len(spanOf(text, at)) - 1
			continue
		}
		out.WriteByte(text[at])
	}
	return out.String()
}

func isClosed(text string) bool {
	return isExpr(text) && len(freeOf(text)) == 0
}

// isValueText tells that nothing but pair stands outside of functions and numerals.
func isValueText(text string) bool {
	return isClosed(text) && !slices.ContainsFunc(atomsOf(withFunsAs(text, "0")), func(atom string) bool {
		return atom != "pair" && !numeralOnly.MatchString(atom)
	})
}

// evaluatedParts are how many parts of an expression are evaluated, by its head.
func evaluatedParts(head string) int {
	return map[string]int{"+": 2, "-": 2, "*": 2, "call": 2, "pair": 2, "fst": 1, "snd": 1, "if": 1, "let": 1}[head]
}

// itemsOf are all parts of a list, as texts.
func itemsOf(list string) []string {
	var items []string
	for at := len("("); at < len(list); at++ {
		item := spanOf(list, at)
		items = append(items, item)
		at += len(item)
	}
	return items
}

// begun is a list that has further parts to evaluate: where it begins, its head, and the values of its parts so far.
type begun struct {
	start  int
	head   string
	values []string
}

// stepOf is the text behind a step of a closed expression, or "" and why there is none: "value", "stuck" or "large". It goes
// through the text once, up to the first list that has all values that it needs and is no pair.
func stepOf(text string) (string, string) {
	var lists []begun
	at := 0
	for {
		value := spanOf(text, at)
		if value[0] == '(' && !strings.HasPrefix(value, "(fun ") {
			items := itemsOf(value)
			lists = append(lists, begun{start: at, head: items[0]})
			at += len("(") + len(items[0]) + len(" ")
			if items[0] == "let" {
				at += len(items[1]) + len(" ")
			}
			continue
		}
		end := at + len(value)
		for {
			if len(lists) == 0 {
				return "", "value"
			}
			top := &lists[len(lists)-1]
			top.values = append(top.values, value)
			if len(top.values) < evaluatedParts(top.head) {
				at = end + len(" ")
				break
			}
			value = spanOf(text, top.start)
			end = top.start + len(value)
			if top.head != "pair" {
				return steppedAt(text, top.start, value, top.values)
			}
			lists = lists[:len(lists)-1]
		}
	}
}

func steppedAt(text string, start int, list string, values []string) (string, string) {
	by := becomes(itemsOf(list), values)
	if by == "" {
		return "", "stuck"
	}
	next := text[:start] + by + text[start+len(list):]
	if !isExpr(next) {
		return "", "large"
	}
	return next, ""
}

// becomes is what a list becomes whose evaluated parts are values, or "".
func becomes(items []string, values []string) string {
	switch items[0] {
	case "+", "-", "*":
		return reckoned(items[0], values[0], values[1])
	case "if":
		if numeralOnly.MatchString(values[0]) {
			return map[bool]string{true: items[2], false: items[3]}[values[0] == "0"]
		}
	case "let":
		return withPut(items[3], items[1], values[0])
	case "call":
		if strings.HasPrefix(values[0], "(fun ") {
			fun := itemsOf(values[0])
			return withPut(withPut(fun[5], fun[1], values[0]), fun[2], values[1])
		}
	case "fst", "snd":
		if strings.HasPrefix(values[0], "(pair ") {
			return itemsOf(values[0])[map[string]int{"fst": 1, "snd": 2}[items[0]]]
		}
	}
	return ""
}

// reckoned is the numeral of the short of a result, or "" for what are no numerals.
func reckoned(head string, a string, b string) string {
	if !numeralOnly.MatchString(a) || !numeralOnly.MatchString(b) {
		return ""
	}
	m, _ := strconv.Atoi(a)
	n, _ := strconv.Atoi(b)
	return strconv.Itoa(shortOf(map[string]int{"+": m + n, "-": m - n, "*": m * n}[head]))
}

// stepsOf is the text behind at most n steps, how many they were, and why there is no step more, or "".
func stepsOf(text string, n int) (string, int, string) {
	for taken := range n {
		next, why := stepOf(text)
		if why != "" {
			return text, taken, why
		}
		text = next
	}
	return text, n, ""
}

// known is a value that the oracle evaluated: the text of a numeral or of a fun, or a pair of other values, and how long its print is,
// up to one byte too many.
type known struct {
	text          string
	first, second int
	bytes         int
}

// evalOracle evaluates texts by putting marks for values into them: `*12` is the value with the index 12.
type evalOracle struct {
	fuel   int
	values []known
}

func (o *evalOracle) keep(v known) int {
	v.bytes = min(v.bytes, impl.FormMax+1)
	o.values = append(o.values, v)
	return len(o.values) - 1
}

// eval is the index of a value, or why there is none: "fuel" or "stuck".
func (o *evalOracle) eval(text string) (int, string) {
	if o.fuel == 0 {
		return 0, "fuel"
	}
	o.fuel--
	switch {
	case text[0] == '*':
		mark, _ := strconv.Atoi(text[1:])
		return mark, ""
	case text[0] != '(':
		return o.keep(known{text: text, bytes: len(text)}), ""
	case strings.HasPrefix(text, "(fun "):
		return o.keep(known{text: text, bytes: len("fun")}), ""
	}
	items := itemsOf(text)
	first := map[bool]int{true: 2, false: 1}[items[0] == "let"]
	var marks []int
	for _, item := range items[first:][:evaluatedParts(items[0])] {
		mark, why := o.eval(item)
		if why != "" {
			return 0, why
		}
		marks = append(marks, mark)
	}
	return o.finish(items, marks)
}

func markText(mark int) string {
	return "*" + strconv.Itoa(mark)
}

func (o *evalOracle) finish(items []string, marks []int) (int, string) {
	v := o.values[marks[0]]
	switch items[0] {
	case "let":
		return o.eval(withPut(items[3], items[1], markText(marks[0])))
	case "pair":
		return o.keep(known{first: marks[0], second: marks[1], bytes: len("(pair  )") + v.bytes + o.values[marks[1]].bytes}), ""
	case "call":
		if strings.HasPrefix(v.text, "(fun ") {
			fun := itemsOf(v.text)
			return o.eval(withPut(withPut(fun[5], fun[1], markText(marks[0])), fun[2], markText(marks[1])))
		}
	case "fst", "snd":
		if v.text == "" {
			return map[string]int{"fst": v.first, "snd": v.second}[items[0]], ""
		}
	case "if":
		if by := becomes(items, []string{v.text}); by != "" {
			return o.eval(by)
		}
	default:
		if by := reckoned(items[0], v.text, o.values[marks[1]].text); by != "" {
			return o.keep(known{text: by, bytes: len(by)}), ""
		}
	}
	return 0, "stuck"
}

func (o *evalOracle) print(mark int) string {
	v := o.values[mark]
	if v.text == "" {
		return "(pair " + o.print(v.first) + " " + o.print(v.second) + ")"
	}
	return withFunsAs(v.text, "fun")
}

// evalOf is the print of what a closed expression is evaluated to, the fuel that it took, and why there is none: "fuel", "stuck" or "long".
func evalOf(text string, fuel int) (string, int, string) {
	o := evalOracle{fuel: fuel}
	mark, why := o.eval(text)
	if why != "" {
		return "", fuel - o.fuel, why
	}
	if o.values[mark].bytes > impl.FormMax {
		return "", fuel - o.fuel, "long"
	}
	return o.print(mark), fuel - o.fuel, ""
}

// countdown calls itself as often as a numeral tells: it takes 7 of the fuel and 3 steps for each time, and 6 and 2 more.
func countdown(n int) string {
	return "(call (fun f x i i (if x 0 (call f (- x 1)))) " + strconv.Itoa(n) + ")"
}

// doubled is an expression whose value are pairs of equal halves, as many within each other as a number tells, up to 23.
func doubled(n int, last string) string {
	text := "a"
	for range n {
		text = "(let a (pair a a) " + text + ")"
	}
	return "(let a " + last + " " + text + ")"
}

// doubledByCalls is the same by calls, for numbers beyond 23.
func doubledByCalls(n int, last string) string {
	return "(let a (fun f n i (> i i) (fun g x i i (if n x (call (call f (- n 1)) (pair x x))))) (call (call a " + strconv.Itoa(n) + ") " + last + "))"
}

// endless are expressions that are evaluated without end and are not stuck; the first ones stay as large as they are.
func endless() []string {
	return []string{
		"(call (fun f x i i (call f x)) 0)", "(call (fun f x i i (call f (+ x 1))) -999)", "(call (fun f x i i (if x (call f x) (call f (- x 1)))) 9)",
		"(call (fun f x i i (+ 1 (call f x))) 0)", "(fst (pair 1 (call (fun f x i i (call f x)) 0)))", "(let a (call (fun f x i i (call f x)) 0) 1)",
		"(call (fun f x i i (call x x)) (fun f x i i (call x x)))", "(+ (pair 1 2) (call (fun f x i i (call f x)) 0))", "(call 1 (call (fun f x i i (call f x)) 0))",
		"(pair (call (fun f x i i (call f x)) 0) (fst 1))", "(call (fun f x i i (pair x (call f x))) 0)", "(call (fun f x i i (call f (pair x x))) 0)",
	}
}

// fixedClosed are closed expressions at the edges of what steps and evaluation are.
func fixedClosed() []string {
	texts := []string{
		"0", "-999", "999", "500", "-501", "(pair 1 (pair 999 -501))", "(fun f x i i x)", "(pair (fun f x i i f) (pair 0 (fun f x i i (fst 1))))",
		"(+ 499 1)", "(- -500 1)", "(* 999 999)", "(if 999 1 2)", "(if (+ 500 500) 1 2)", "(let a 999 (pair a (+ a 0)))",
		"(+ (* 2 3) 4)", "(+ (+ 1 2) (+ 3 4))", "(+ (fst 1) (+ 3 4))", "(+ (+ 1 2) (fst 1))", "(pair (pair 1 2) (pair (+ 1 2) (fst 1)))",
		"(call (fun f x i i (if x 1 (* x (call f (- x 1))))) 5)", "(call (fun f x i i (if x 0 (if (- x 1) 1 (+ (call f (- x 1)) (call f (- x 2)))))) 7)",
		"(call (call (fun f x i (> i i) (fun g y i i (- x y))) 9) 2)", "(let a 5 (let b (fun f x i i (+ x a)) (let a 7 (call b a))))",
		"(call (fun f x (> i i) i (call x (call x 3))) (fun f x i i (* x x)))", "(call (fun f x i i (let f (+ x 1) (let x f (* f x)))) 4)",
		"(call (fun x f i i (if f f (call x 0))) 3)", "(if 0 1 (fst 1))", "(if 1 (fst 1) 2)", "(let a (fun f x i i (fst 1)) 3)", "(let a (fun f x i i (fst 1)) (call a 3))",
		countdown(0), countdown(100), countdown(166), countdown(284), countdown(285), "(call (fun f x i i (if x (fst x) (call f (- x 1)))) 30)",
		doubled(3, "1"), doubled(20, "(fun f x i i x)"), doubledByCalls(40, "0"), doubledByCalls(100, "(pair 1 2)"), "(fst (fst " + doubled(19, "7") + "))",
		sumOf(60, "999"), inFsts(impl.DepthMax, "1"), inFsts(impl.DepthMax-1, "(pair 1 2)"),
		"(let a " + typedZero(wideType("*", 15)) + " (pair (pair a a) (pair (pair a a) (pair (pair a a) (pair a a)))))",
	}
	return append(append(texts, stuckExprs()...), endless()...)
}

// stuckExprs are closed expressions that are stuck at once.
func stuckExprs() []string {
	pair, fun := "(pair 1 2)", "(fun f x i i x)"
	var texts []string
	for _, head := range []string{"+", "-", "*"} {
		for _, other := range []string{pair, fun, "(pair (pair 1 2) (fun f x i i f))"} {
			texts = append(texts, "("+head+" "+other+" 1)", "("+head+" 1 "+other+")", "("+head+" "+other+" "+other+")", "("+head+" "+pair+" "+fun+")")
		}
	}
	texts = append(texts, "(if "+pair+" 1 2)", "(if "+fun+" 1 2)", "(if (pair 0 0) 1 1)", "(if "+pair+" (+ 1 2) (fst 1))")
	texts = append(texts, "(call 1 2)", "(call 0 "+fun+")", "(call "+pair+" 1)", "(call (pair "+fun+" 1) 2)", "(call "+pair+" "+fun+")", "(call -999 -999)")
	for _, head := range []string{"fst", "snd"} {
		texts = append(texts, "("+head+" 0)", "("+head+" 999)", "("+head+" "+fun+")")
	}
	return texts
}

// withinEvaluated is an expression in a place that is evaluated ahead of all others that are no values.
func withinEvaluated() []string {
	return []string{
		"(+ # 1)", "(+ 1 #)", "(- # (+ 1 2))", "(- 1 #)", "(* # (fst 2))", "(* (pair 1 2) #)", "(if # 1 2)", "(if # (+ 1 2) (fst 1))", "(let x # x)", "(let x # (fst 1))",
		"(call # 1)", "(call # (+ 1 2))", "(call (fun f x i i x) #)", "(call 1 #)", "(pair # 1)", "(pair 1 #)", "(pair # (+ 1 2))", "(pair (pair 1 (fun f x i i x)) #)", "(fst #)", "(snd #)",
		"(fst (pair 1 #))", "(let x (+ 1 (pair # 2)) (fst 3))", "(if (if # 1 2) 3 4)", "(call (call (fun f x i i x) #) (+ 1 2))",
	}
}

// closedOf is an expression with closed ones put for all names that are free in it, or "" if it would be too large.
func closedOf(r *rand.Rand, text string) string {
	closed := []string{"0", "1", "-999", "(+ 999 2)", "(pair 1 2)", "(fun f x i i x)", "(fun f x i i (call f x))", "(call (fun f x i i (call f x)) 0)"}
	for _, name := range firstAtoms(freeOf(text)) {
		text = withPut(text, name, closed[r.Intn(len(closed))])
	}
	if !isExpr(text) {
		return ""
	}
	return text
}

// sampleClosed are closed expressions, with types and without: fixed ones, and random ones, the same in each run.
func sampleClosed() []string {
	return slices.Clone(onceClosed())
}

var onceClosed = sync.OnceValue(func() []string {
	texts := fixedClosed()
	r := rand.New(rand.NewSource(12))
	for range 1000 {
		typed := typedExpr(r, env{}, randomType(r, 1+r.Intn(2)), 1+r.Intn(5))
		part := []string{"(fst 1)", "(pair 1 2)", "(+ 1 2)", "0", "999", "(fun f x i i x)", "(call (fun f x i i (call f x)) 0)"}[r.Intn(7)]
		texts = append(texts, typed, closedOf(r, withPart(r, typed, part)), closedOf(r, swappedParts(r, typed)), closedOf(r, randomExpr(r, 1+r.Intn(4))))
	}
	return slices.DeleteFunc(texts, func(text string) bool { return text == "" || !isClosed(text) })
})

// noClosed are texts that are no closed expressions: open ones, and texts that are no expressions.
func noClosed() []string {
	open := []string{
		"a", "i", "(+ 1 a)", "(+ a 1)", "(pair a 1)", "(pair 1 a)", "(fst a)", "(let x y x)", "(let x 1 y)", "(let x x x)", "(if 0 1 a)", "(if 1 a 2)", "(if a 1 2)",
		"(fun f x i i y)", "(fun f x i i (+ f i))", "(pair 1 (fun f x i i a))", "(call (fun f x i i x) x)", "(call (fun f x i i x) f)", "(+ 1 (+ 2 (let x 1 a)))", "(pair (let x 1 x) x)",
	}
	return append(open, fixedExprFaults()...)
}

func TestOracleKnowsStepsAndEvaluation(t *testing.T) {
	cases := [][3]string{
		{"0", "", "value"},
		{"(pair 1 (fun f x i i (+ 1 2)))", "", "value"},
		{"(+ 1 2)", "3", ""},
		{"(pair (pair 1 2) (pair (fun f x i i x) (* 500 (- 1 2))))", "(pair (pair 1 2) (pair (fun f x i i x) (* 500 -1)))", ""},
		{"(pair (fun f x i i x) (* 500 -1))", "(pair (fun f x i i x) -500)", ""},
		{"(let x (let y 1 y) x)", "(let x 1 x)", ""},
		{"(let x (pair 1 2) (let y x (fst x)))", "(let y (pair 1 2) (fst (pair 1 2)))", ""},
		{"(call (fun f x i i (pair f x)) (snd (pair 3 4)))", "(call (fun f x i i (pair f x)) 4)", ""},
		{"(call (fun f x i i (pair f x)) 4)", "(pair (fun f x i i (pair f x)) 4)", ""},
		{"(if (if 0 1 0) 2 3)", "(if 1 2 3)", ""},
		{"(+ (fst 1) (+ 1 2))", "", "stuck"},
		{"(+ (+ 1 2) (fst 1))", "(+ 3 (fst 1))", ""},
		{"(let a " + typedZero(wideType("*", 15)) + " " + sumOf(9, "a") + ")", "", "large"},
	}
	for _, c := range cases {
		next, why := stepOf(c[0])
		if next != c[1] || why != c[2] {
			t.Errorf("the oracle goes on from %q to %q, %q", c[0], next, why)
		}
	}
	evals := []struct {
		text, print, why string
		took             int
	}{
		{"(+ 1 2)", "3", "", 3},
		{"(let x (pair 1 2) (pair (fst x) (fun f x i i x)))", "(pair 1 fun)", "", 8},
		{"(call (call (fun f x i (> i i) (fun g y i i (- x y))) 9) 2)", "7", "", 9},
		{countdown(3), "0", "", 27},
		{"(fst 1)", "", "stuck", 2},
		{"(call (fun f x i i (call f x)) 0)", "", "fuel", 100},
		{doubled(20, "1"), "", "long", 83},
	}
	for _, c := range evals {
		if print, took, why := evalOf(c.text, 100); print != c.print || took != c.took || why != c.why {
			t.Errorf("the oracle evaluates %q to %q, %d, %q", c.text, print, took, why)
		}
	}
	if got := withFunsAs("(pair (fun f x i i (fun g y i i (+ x y))) (+ 1 (fun f x i i x)))", "fun"); got != "(pair fun (+ 1 fun))" {
		t.Errorf("the oracle replaces functions to %q", got)
	}
}
