package tests

import (
	"strings"
	"testing"

	"loop.example/typedassembly/impl"
)

func TestExprPutOfSomeExprs(t *testing.T) {
	cases := [][4]string{
		{"a", "a", "7", "7"},
		{"a", "a", "(fst (pair 1 2))", "(fst (pair 1 2))"},
		{"a", "b", "7", "a"},
		{"7", "a", "1", "7"},
		{"(+ a a)", "a", "-7", "(+ -7 -7)"},
		{"(+ a1 (+ a a11))", "a", "7", "(+ a1 (+ 7 a11))"},
		{"(if a b a)", "a", "7", "(if 7 b 7)"},
		{"(call a (fst a))", "a", "(fun f x i i x)", "(call (fun f x i i x) (fst (fun f x i i x)))"},
		{"(let a a a)", "a", "7", "(let a 7 a)"},
		{"(let b a (+ a b))", "a", "7", "(let b 7 (+ 7 b))"},
		{"(let b a (+ a b))", "b", "7", "(let b a (+ a b))"},
		{"(let a (let a a a) (let b a b))", "a", "7", "(let a (let a 7 a) (let b a b))"},
		{"(let b (let a 1 a) a)", "a", "7", "(let b (let a 1 a) 7)"},
		{"(pair (let a 1 a) a)", "a", "7", "(pair (let a 1 a) 7)"},
		{"(fun f x i i (+ a x))", "a", "7", "(fun f x i i (+ 7 x))"},
		{"(fun f x i i (+ f x))", "f", "7", "(fun f x i i (+ f x))"},
		{"(fun f x i i (+ f x))", "x", "7", "(fun f x i i (+ f x))"},
		{"(fun f x (> i i) i (+ i x))", "i", "7", "(fun f x (> i i) i (+ 7 x))"},
		{"(fun i x i i (+ i x))", "i", "7", "(fun i x i i (+ i x))"},
		{"(fun f x i i (fun g y i i (let z x a)))", "a", "7", "(fun f x i i (fun g y i i (let z x 7)))"},
		{"(fun f x i i (fun g a i i (+ a x)))", "a", "7", "(fun f x i i (fun g a i i (+ a x)))"},
		{"(fun f x i i (let a a a))", "a", "7", "(fun f x i i (let a 7 a))"},
		{"(let x 1 a)", "a", "(let x 2 x)", "(let x 1 (let x 2 x))"},
		{"(fun f x i i a)", "a", "(fun a f i i (call a f))", "(fun f x i i (fun a f i i (call a f)))"},
		{"(+ a b)", "a", "(let b 1 b)", "(+ (let b 1 b) b)"},
		{"(+ a (let a 1 a))", "a", "(let a 1 a)", "(+ (let a 1 a) (let a 1 a))"},
	}
	for _, c := range cases {
		if got, ok := impl.ExprPut(c[0], c[1], c[2]); !ok || got != c[3] {
			t.Errorf("ExprPut(%q, %q, %q) is %q, %v", c[0], c[1], c[2], got, ok)
		}
	}
}

func TestExprPutFails(t *testing.T) {
	var cases [][3]string
	for _, text := range fixedExprFaults() {
		cases = append(cases, [3]string{text, "a", "1"}, [3]string{"(+ a 1)", "a", text}, [3]string{"1", "a", text}, [3]string{"b", "a", text})
	}
	for _, text := range noNames() {
		cases = append(cases, [3]string{"(+ a 1)", text, "1"}, [3]string{"1", text, "1"})
	}
	for _, open := range []string{"a", "b", "(+ 1 a)", "(let x x 1)", "(fun f x i i y)", "(pair (let x 1 x) x)"} {
		cases = append(cases, [3]string{"a", "a", open}, [3]string{"b", "a", open}, [3]string{"1", "a", open}, [3]string{"(let a 1 a)", "a", open})
	}
	for _, c := range cases {
		if got, ok := impl.ExprPut(c[0], c[1], c[2]); ok || got != "" {
			t.Errorf("ExprPut(%q, %q, %q) is %q, %v", cut(c[0]), cut(c[1]), cut(c[2]), cut(got), ok)
		}
	}
}

func TestExprPutAtTheLimits(t *testing.T) {
	closed := sumOf(30, "1")
	pair := "(pair a " + sumOf(30, "2") + ")"
	if impl.FormSize(pair) != 61 || impl.FormSize(closed) != 59 {
		t.Errorf("there are %d and %d atoms", impl.FormSize(pair), impl.FormSize(closed))
	}
	cases := []struct {
		text, by string
		fits     bool
	}{
		{pair, closed, true},
		{pair, "(fst " + closed + ")", true},
		{"(fst " + pair + ")", closed, true},
		{pair, "(snd (fst " + closed + "))", false},
		{"(fst " + pair + ")", "(fst " + closed + ")", false},
		{"(snd (fst " + pair + "))", closed, false},
		{sumOf(60, "a"), "1", true},
		{sumOf(60, "a"), "-999", true},
		{sumOf(60, "a"), "(fst 1)", false},
		{sumOf(60, "a"), sumOf(60, "-999"), false},
		{inLets(39), sumOf(60, "-999"), true},
		{"a", sumOf(60, "1"), true},
		{"a", "(fst " + sumOf(60, "1") + ")", true},
		{"(fst a)", "(fst " + sumOf(60, "1") + ")", false},
		{inFsts(impl.DepthMax, "a"), "1", true},
		{inFsts(impl.DepthMax, "a"), "(fst 1)", false},
		{inFsts(impl.DepthMax-1, "a"), "(fst 1)", true},
		{inFsts(30, "a"), inFsts(30, "1"), true},
		{inFsts(30, "a"), inFsts(31, "1"), false},
		{"(let a a " + inFsts(30, "1") + ")", inFsts(impl.DepthMax-1, "1"), true},
		{"(let a a " + inFsts(30, "1") + ")", inFsts(impl.DepthMax, "1"), false},
		{inFsts(impl.DepthMax-1, "(fun a b i i a)"), inFsts(impl.DepthMax, "1"), true},
	}
	for _, c := range cases {
		want := withPut(c.text, "a", c.by)
		if isExpr(want) != c.fits {
			t.Errorf("%q is an expression: %v", cut(want), !c.fits)
		}
		if !c.fits {
			want = ""
		}
		if got, ok := impl.ExprPut(c.text, "a", c.by); ok != c.fits || got != want {
			t.Errorf("ExprPut(%q, a, %q) is %q, %v", cut(c.text), cut(c.by), cut(got), ok)
		}
	}
	if long := withPut(sumOf(60, "a"), "a", sumOf(60, "-999")); len(long) <= impl.FormMax {
		t.Errorf("a result that is to have too many bytes has %d", len(long))
	}
}

// P16, and what the result is.
func TestExprPutAgreesWithTheOracle(t *testing.T) {
	closed := []string{"0", "-999", "(fst (pair 1 2))", "(let a 1 a)", "(fun a b i i (+ a b))", "(fun x1 x0 (> i i) i x0)", sumOf(9, "3"), inFsts(56, "1")}
	names := []string{"a", "b", "i", "x0", "x1", "x12", "y"}
	fits, over := 0, 0
	for k, text := range sampleExprs() {
		name, by := names[k%len(names)], closed[k%len(closed)]
		want := withPut(text, name, by)
		ok := isExpr(want)
		if !ok {
			want = ""
		}
		got, done := impl.ExprPut(text, name, by)
		if done != ok || got != want {
			t.Errorf("ExprPut(%q, %q, %q) is %q, %v", cut(text), name, cut(by), cut(got), done)
		}
		if !ok {
			over++
			continue
		}
		fits++
		grows := impl.ExprCount(text, name) * (impl.FormSize(by) - 1)
		if impl.ExprCount(got, name) != 0 || impl.FormSize(got) != impl.FormSize(text)+grows {
			t.Errorf("ExprPut(%q, %q, %q) is %q", cut(text), name, cut(by), cut(got))
		}
		plain, _ := impl.ExprPlain(text)
		if other, ok := impl.ExprPut(plain, name, by); !ok || !impl.ExprAlike(got, other) {
			t.Errorf("ExprPut(%q, %q, %q) is %q, %v", cut(plain), name, cut(by), cut(other), ok)
		}
	}
	if fits < 1000 || over < 20 {
		t.Errorf("%d samples have a result and %d none", fits, over)
	}
}

func TestExprPutChangesNoArguments(t *testing.T) {
	text, name, by := strings.Clone("(+ a (let a a a))"), strings.Clone("a"), strings.Clone("(let b 1 b)")
	for range 2 {
		if got, ok := impl.ExprPut(text, name, by); !ok || got != "(+ (let b 1 b) (let a (let b 1 b) a))" {
			t.Errorf("ExprPut is %q, %v", got, ok)
		}
	}
	if text != "(+ a (let a a a))" || name != "a" || by != "(let b 1 b)" {
		t.Errorf("ExprPut made its arguments %q, %q, %q", text, name, by)
	}
}
