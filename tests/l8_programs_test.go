package tests

import (
	"regexp"
	"slices"
	"strings"
	"testing"

	"loop.example/typedassembly/impl"
)

var shortType = regexp.MustCompile(`([XK])\[([^\]]*)\]`)

// inFull is a text with types written in full, where X[A] is the target type of A, and K[A] that of what goes on with it.
func inFull(text string) string {
	return shortType.ReplaceAllStringFunc(text, func(short string) string {
		parts := shortType.FindStringSubmatch(short)
		if parts[1] == "X" {
			return targetOf(parts[2])
		}
		return nextOf(parts[2])
	})
}

// handmade is a program that was written by hand from the chapter: its expression, the type of this, the code of main behind the first four
// instructions, and all blocks behind end, each one as its label and its Regs, a colon, and its code.
type handmade []string

func (h handmade) program() []impl.Block {
	blocks := [][3]string{
		{"main", "", "(new 0) (lab 1 end) (new 2 1 0) " + inFull("(pack 3 2 K["+h[1]+"] (t)) "+h[2])},
		{"end", inFull("(t) X[" + h[1] + "]"), "(halt 1)"},
	}
	for _, line := range h[3:] {
		needs, code, _ := strings.Cut(inFull(line), ": ")
		label, regs, _ := strings.Cut(needs, " ")
		blocks = append(blocks, [3]string{label, regs, code})
	}
	return coded(blocks...)
}

// sameProgram tells whether two programs have the same blocks; no Regs are as good as an empty list.
func sameProgram(a []impl.Block, b []impl.Block) bool {
	return slices.EqualFunc(a, b, func(a impl.Block, b impl.Block) bool {
		return a.Label == b.Label && slices.Equal(a.Regs, b.Regs) && slices.Equal(a.Code, b.Code)
	})
}

// checkCompiled checks the program of an expression, and what goes with it (P73, P75, P78 and P79).
func checkCompiled(t *testing.T, text string, want []impl.Block) {
	t.Helper()
	program, ok := impl.Compile(text)
	if !ok || !sameProgram(program, want) {
		t.Errorf("Compile(%q) is %v:\n%s\nnot:\n%s", cut(text), ok, listed(program), listed(want))
		return
	}
	size := 0
	var labels []string
	for _, b := range want {
		size += len(b.Code)
		labels = append(labels, b.Label)
	}
	if got := impl.CompileSize(text); got != size || got < 8 {
		t.Errorf("CompileSize(%q) is %d, not %d", cut(text), got, size)
	}
	if got, ok := impl.CompileLabels(text); !ok || !slices.Equal(got, labels) {
		t.Errorf("CompileLabels(%q) is %q, %v, not %q", cut(text), got, ok, labels)
	}
	if !impl.CheckProgram(program) || impl.RunStuck(program, 300) {
		t.Errorf("Compile(%q) makes a program that does not check, or gets stuck", cut(text))
	}
	kind, _ := impl.ExprType(nil, nil, text)
	of, _ := impl.TargetOf(kind)
	if !slices.Equal(program[1].Regs, []string{"(t)", of}) {
		t.Errorf("the end of %q needs %q", cut(text), program[1].Regs)
	}
}

// checkNotCompiled checks that nothing is made of a text.
func checkNotCompiled(t *testing.T, text string) {
	t.Helper()
	if program, ok := impl.Compile(text); ok || len(program) != 0 {
		t.Errorf("Compile(%q) is %v:\n%s", cut(text), ok, listed(program))
	}
	if printed, ok := impl.CompileRun(text); ok || printed != "" {
		t.Errorf("CompileRun(%q) is %q, %v", cut(text), cut(printed), ok)
	}
	if size := impl.CompileSize(text); size != -1 {
		t.Errorf("CompileSize(%q) is %d", cut(text), size)
	}
	if labels, ok := impl.CompileLabels(text); ok || len(labels) != 0 {
		t.Errorf("CompileLabels(%q) is %q, %v", cut(text), labels, ok)
	}
	for _, fuel := range []int{0, 1, 300, impl.FuelMax} {
		if impl.CompileAgrees(text, fuel) {
			t.Errorf("CompileAgrees(%q, %d) holds", cut(text), fuel)
		}
	}
}

// listed is a program with a line for each block.
func listed(program []impl.Block) string {
	var lines []string
	for _, b := range program {
		lines = append(lines, b.Label+" "+strings.Join(b.Regs, " ")+": "+strings.Join(b.Code, " "))
	}
	return strings.Join(lines, "\n")
}

func checkHandmade(t *testing.T, cases []handmade) {
	t.Helper()
	for _, c := range cases {
		checkCompiled(t, c[0], c.program())
	}
}

// Programs with all that is in them, without anything that is short for something else.
func TestCompileInFull(t *testing.T) {
	checkCompiled(t, "7", []impl.Block{
		{Label: "main", Code: []string{
			"(new 0)", "(lab 1 end)", "(new 2 1 0)", "(pack 3 2 (e (t (c v i) v)) (t))",
			"(const 4 7)",
			"(open 5 3)", "(get 6 5 0)", "(get 7 5 1)", "(mov 0 7)", "(mov 1 4)", "(jump 6)",
		}},
		{Label: "end", Regs: []string{"(t)", "i"}, Code: []string{"(halt 1)"}},
	})
	checkCompiled(t, "(call (fun f x i i (if x 0 (call f (- x 1)))) 3)", []impl.Block{
		{Label: "main", Code: []string{
			"(new 0)", "(lab 1 end)", "(new 2 1 0)", "(pack 3 2 (e (t (c v i) v)) (t))",
			"(new 4)", "(lab 5 b0)", "(new 6 5 4)", "(pack 7 6 (e (t (c v i (e (t (c v i) v))) v)) (t))",
			"(const 8 3)",
			"(open 9 7)", "(get 10 9 0)", "(get 11 9 1)", "(mov 0 11)", "(mov 1 8)", "(mov 2 3)", "(jump 10)",
		}},
		{Label: "end", Regs: []string{"(t)", "i"}, Code: []string{"(halt 1)"}},
		{Label: "b0", Regs: []string{"(t)", "i", "(e (t (c v i) v))"}, Code: []string{
			"(lab 3 b0)", "(new 4 3 0)", "(pack 5 4 (e (t (c v i (e (t (c v i) v))) v)) (t))",
			"(zero 1 b1)",
			"(const 6 1)", "(sub 7 1 6)",
			"(open 8 5)", "(get 9 8 0)", "(get 10 8 1)", "(mov 0 10)", "(mov 1 7)", "(mov 2 2)", "(jump 9)",
		}},
		{
			Label: "b1",
			Regs: []string{
				"(t)", "i", "(e (t (c v i) v))",
				"(c (t) i (e (t (c v i) v)))", "(t (c (t) i (e (t (c v i) v))) (t))", "(e (t (c v i (e (t (c v i) v))) v))",
			},
			Code: []string{"(const 6 0)", "(open 7 2)", "(get 8 7 0)", "(get 9 7 1)", "(mov 0 9)", "(mov 1 6)", "(jump 8)"},
		},
	})
	checkCompiled(t, "(let a 2 (let b (call (fun f x i (* i i) (pair x a)) 3) (* a (fst b))))", []impl.Block{
		{Label: "main", Code: []string{
			"(new 0)", "(lab 1 end)", "(new 2 1 0)", "(pack 3 2 (e (t (c v i) v)) (t))",
			"(const 4 2)",
			"(new 5 4)", "(lab 6 b0)", "(new 7 6 5)", "(pack 8 7 (e (t (c v i (e (t (c v (t i i)) v))) v)) (t i))",
			"(const 9 3)",
			"(new 10 4 3)", "(lab 11 b1)", "(new 12 11 10)", "(pack 13 12 (e (t (c v (t i i)) v)) (t i (e (t (c v i) v))))",
			"(open 14 8)", "(get 15 14 0)", "(get 16 14 1)", "(mov 0 16)", "(mov 1 9)", "(mov 2 13)", "(jump 15)",
		}},
		{Label: "end", Regs: []string{"(t)", "i"}, Code: []string{"(halt 1)"}},
		{Label: "b0", Regs: []string{"(t i)", "i", "(e (t (c v (t i i)) v))"}, Code: []string{
			"(get 3 0 0)", "(new 4 1 3)",
			"(open 5 2)", "(get 6 5 0)", "(get 7 5 1)", "(mov 0 7)", "(mov 1 4)", "(jump 6)",
		}},
		{Label: "b1", Regs: []string{"(t i (e (t (c v i) v)))", "(t i i)"}, Code: []string{
			"(get 2 0 0)", "(get 3 0 1)", "(get 4 1 0)", "(mul 5 2 4)",
			"(open 6 3)", "(get 7 6 0)", "(get 8 6 1)", "(mov 0 8)", "(mov 1 5)", "(jump 7)",
		}},
	})
}

// The comment ahead of each program that was made by hand is the normal expression that it is made of.

// headsAtTheEnd have each head that a simple expression can have at the end.
func headsAtTheEnd() []handmade {
	return []handmade{
		// 7
		{"7", "i",
			"(const 4 7) (open 5 3) (get 6 5 0) (get 7 5 1) (mov 0 7) (mov 1 4) (jump 6)",
		},
		// -999
		{"-999", "i",
			"(const 4 -999) (open 5 3) (get 6 5 0) (get 7 5 1) (mov 0 7) (mov 1 4) (jump 6)",
		},
		// (let x0 5 x0)
		{"(let a 5 a)", "i",
			"(const 4 5) (open 5 3) (get 6 5 0) (get 7 5 1) (mov 0 7) (mov 1 4) (jump 6)",
		},
		// (let x0 5 (let x1 x0 x1))
		{"(let a 5 (let b a b))", "i",
			"(const 4 5) (open 5 3) (get 6 5 0) (get 7 5 1) (mov 0 7) (mov 1 4) (jump 6)",
		},
		// (+ 1 2)
		{"(+ 1 2)", "i",
			"(const 4 1) (const 5 2) (add 6 4 5) (open 7 3) (get 8 7 0) (get 9 7 1) (mov 0 9) (mov 1 6) (jump 8)",
		},
		// (- 1 2)
		{"(- 1 2)", "i",
			"(const 4 1) (const 5 2) (sub 6 4 5) (open 7 3) (get 8 7 0) (get 9 7 1) (mov 0 9) (mov 1 6) (jump 8)",
		},
		// (* 1 2)
		{"(* 1 2)", "i",
			"(const 4 1) (const 5 2) (mul 6 4 5) (open 7 3) (get 8 7 0) (get 9 7 1) (mov 0 9) (mov 1 6) (jump 8)",
		},
		// (pair 1 2)
		{"(pair 1 2)", "(* i i)",
			"(const 4 1) (const 5 2) (new 6 4 5) (open 7 3) (get 8 7 0) (get 9 7 1) (mov 0 9) (mov 1 6) (jump 8)",
		},
		// (let y0 (pair 1 2) (fst y0))
		{"(fst (pair 1 2))", "i",
			"(const 4 1) (const 5 2) (new 6 4 5) (get 7 6 0) (open 8 3) (get 9 8 0) (get 10 8 1) (mov 0 10) (mov 1 7) (jump 9)",
		},
		// (let y0 (pair 1 2) (snd y0))
		{"(snd (pair 1 2))", "i",
			"(const 4 1) (const 5 2) (new 6 4 5) (get 7 6 1) (open 8 3) (get 9 8 0) (get 10 8 1) (mov 0 10) (mov 1 7) (jump 9)",
		},
		// (fun x0 x1 i i x1)
		{"(fun f x i i x)", "(> i i)",
			"(new 4) (lab 5 b0) (new 6 5 4) (pack 7 6 X[(> i i)] (t)) (open 8 3) (get 9 8 0) (get 10 8 1) (mov 0 10) (mov 1 7) (jump 9)",
			"b0 (t) i K[i]: (open 3 2) (get 4 3 0) (get 5 3 1) (mov 0 5) (mov 1 1) (jump 4)",
		},
		// (let y0 (fun x0 x1 i i x1) (call y0 5))
		{"(call (fun f x i i x) 5)", "i",
			"(new 4) (lab 5 b0) (new 6 5 4) (pack 7 6 X[(> i i)] (t)) (const 8 5) (open 9 7) (get 10 9 0) (get 11 9 1) (mov 0 11) (mov 1 8) (mov 2 3) (jump 10)",
			"b0 (t) i K[i]: (open 3 2) (get 4 3 0) (get 5 3 1) (mov 0 5) (mov 1 1) (jump 4)",
		},
		// (if 0 1 2)
		{"(if 0 1 2)", "i",
			"(const 4 0) (zero 4 b0) (const 5 2) (open 6 3) (get 7 6 0) (get 8 6 1) (mov 0 8) (mov 1 5) (jump 7)",
			"b0 (t) (c (t) i) (t (c (t) i) (t)) K[i] i: (const 5 1) (open 6 3) (get 7 6 0) (get 8 6 1) (mov 0 8) (mov 1 5) (jump 7)",
		},
	}
}

// headsInALet have each one bound by a let, so that the rest of a call and of an if is cut off.
func headsInALet() []handmade {
	return []handmade{
		// (let x0 (+ 1 2) x0)
		{"(let a (+ 1 2) a)", "i",
			"(const 4 1) (const 5 2) (add 6 4 5) (open 7 3) (get 8 7 0) (get 9 7 1) (mov 0 9) (mov 1 6) (jump 8)",
		},
		// (let x0 (- 1 2) 7)
		{"(let a (- 1 2) 7)", "i",
			"(const 4 1) (const 5 2) (sub 6 4 5) (const 7 7) (open 8 3) (get 9 8 0) (get 10 8 1) (mov 0 10) (mov 1 7) (jump 9)",
		},
		// (let x0 (* 1 2) (* x0 x0))
		{"(let a (* 1 2) (* a a))", "i",
			"(const 4 1) (const 5 2) (mul 6 4 5) (mul 7 6 6) (open 8 3) (get 9 8 0) (get 10 8 1) (mov 0 10) (mov 1 7) (jump 9)",
		},
		// (let x0 (pair 1 2) x0)
		{"(let a (pair 1 2) a)", "(* i i)",
			"(const 4 1) (const 5 2) (new 6 4 5) (open 7 3) (get 8 7 0) (get 9 7 1) (mov 0 9) (mov 1 6) (jump 8)",
		},
		// (let x0 (pair 1 2) (let x1 (fst x0) x1))
		{"(let a (pair 1 2) (let b (fst a) b))", "i",
			"(const 4 1) (const 5 2) (new 6 4 5) (get 7 6 0) (open 8 3) (get 9 8 0) (get 10 8 1) (mov 0 10) (mov 1 7) (jump 9)",
		},
		// (let x0 (pair 1 2) (let x1 (snd x0) (pair x1 x0)))
		{"(let a (pair 1 2) (let b (snd a) (pair b a)))", "(* i (* i i))",
			"(const 4 1) (const 5 2) (new 6 4 5) (get 7 6 1) (new 8 7 6) (open 9 3) (get 10 9 0) (get 11 9 1) (mov 0 11) (mov 1 8) (jump 10)",
		},
		// (let x0 (fun x1 x2 i i x2) x0)
		{"(let a (fun f x i i x) a)", "(> i i)",
			"(new 4) (lab 5 b0) (new 6 5 4) (pack 7 6 X[(> i i)] (t)) (open 8 3) (get 9 8 0) (get 10 8 1) (mov 0 10) (mov 1 7) (jump 9)",
			"b0 (t) i K[i]: (open 3 2) (get 4 3 0) (get 5 3 1) (mov 0 5) (mov 1 1) (jump 4)",
		},
		// (let y0 (fun x1 x2 i i x2) (let x0 (call y0 5) x0))
		{"(let a (call (fun f x i i x) 5) a)", "i",
			"(new 4) (lab 5 b0) (new 6 5 4) (pack 7 6 X[(> i i)] (t)) (const 8 5) (new 9 3) (lab 10 b1) (new 11 10 9) (pack 12 11 K[i] (t K[i])) (open 13 7) (get 14 13 0) (get 15 13 1) (mov 0 15) (mov 1 8) (mov 2 12) (jump 14)",
			"b0 (t) i K[i]: (open 3 2) (get 4 3 0) (get 5 3 1) (mov 0 5) (mov 1 1) (jump 4)",
			"b1 (t K[i]) i: (get 2 0 0) (open 3 2) (get 4 3 0) (get 5 3 1) (mov 0 5) (mov 1 1) (jump 4)",
		},
		// (let x0 (if 0 1 2) x0)
		{"(let a (if 0 1 2) a)", "i",
			"(const 4 0) (new 5 3) (lab 6 b0) (new 7 6 5) (pack 8 7 K[i] (t K[i])) (zero 4 b1) (const 9 2) (open 10 8) (get 11 10 0) (get 12 10 1) (mov 0 12) (mov 1 9) (jump 11)",
			"b0 (t K[i]) i: (get 2 0 0) (open 3 2) (get 4 3 0) (get 5 3 1) (mov 0 5) (mov 1 1) (jump 4)",
			"b1 (t) (c (t) i) (t (c (t) i) (t)) K[i] i (t K[i]) (c (t K[i]) i) (t (c (t K[i]) i) (t K[i])) K[i]: (const 9 1) (open 10 8) (get 11 10 0) (get 12 10 1) (mov 0 12) (mov 1 9) (jump 11)",
		},
	}
}

// headsInARest have each one at the end of what was cut off.
func headsInARest() []handmade {
	return []handmade{
		// (let x0 (fun x1 x2 i i x2) (let x3 (call x0 5) 7))
		{"(let a (fun f x i i x) (let b (call a 5) 7))", "i",
			"(new 4) (lab 5 b0) (new 6 5 4) (pack 7 6 X[(> i i)] (t)) (const 8 5) (new 9 3) (lab 10 b1) (new 11 10 9) (pack 12 11 K[i] (t K[i])) (open 13 7) (get 14 13 0) (get 15 13 1) (mov 0 15) (mov 1 8) (mov 2 12) (jump 14)",
			"b0 (t) i K[i]: (open 3 2) (get 4 3 0) (get 5 3 1) (mov 0 5) (mov 1 1) (jump 4)",
			"b1 (t K[i]) i: (get 2 0 0) (const 3 7) (open 4 2) (get 5 4 0) (get 6 4 1) (mov 0 6) (mov 1 3) (jump 5)",
		},
		// (let x0 (fun x1 x2 i i x2) (let x3 (call x0 5) x0))
		{"(let a (fun f x i i x) (let b (call a 5) a))", "(> i i)",
			"(new 4) (lab 5 b0) (new 6 5 4) (pack 7 6 X[(> i i)] (t)) (const 8 5) (new 9 7 3) (lab 10 b1) (new 11 10 9) (pack 12 11 K[i] (t X[(> i i)] K[(> i i)])) (open 13 7) (get 14 13 0) (get 15 13 1) (mov 0 15) (mov 1 8) (mov 2 12) (jump 14)",
			"b0 (t) i K[i]: (open 3 2) (get 4 3 0) (get 5 3 1) (mov 0 5) (mov 1 1) (jump 4)",
			"b1 (t X[(> i i)] K[(> i i)]) i: (get 2 0 0) (get 3 0 1) (open 4 3) (get 5 4 0) (get 6 4 1) (mov 0 6) (mov 1 2) (jump 5)",
		},
		// (let x0 (fun x1 x2 i i x2) (let x3 (call x0 5) (+ x3 1)))
		{"(let a (fun f x i i x) (let b (call a 5) (+ b 1)))", "i",
			"(new 4) (lab 5 b0) (new 6 5 4) (pack 7 6 X[(> i i)] (t)) (const 8 5) (new 9 3) (lab 10 b1) (new 11 10 9) (pack 12 11 K[i] (t K[i])) (open 13 7) (get 14 13 0) (get 15 13 1) (mov 0 15) (mov 1 8) (mov 2 12) (jump 14)",
			"b0 (t) i K[i]: (open 3 2) (get 4 3 0) (get 5 3 1) (mov 0 5) (mov 1 1) (jump 4)",
			"b1 (t K[i]) i: (get 2 0 0) (const 3 1) (add 4 1 3) (open 5 2) (get 6 5 0) (get 7 5 1) (mov 0 7) (mov 1 4) (jump 6)",
		},
		// (let x0 (fun x1 x2 i i x2) (let x3 (call x0 5) (- 1 x3)))
		{"(let a (fun f x i i x) (let b (call a 5) (- 1 b)))", "i",
			"(new 4) (lab 5 b0) (new 6 5 4) (pack 7 6 X[(> i i)] (t)) (const 8 5) (new 9 3) (lab 10 b1) (new 11 10 9) (pack 12 11 K[i] (t K[i])) (open 13 7) (get 14 13 0) (get 15 13 1) (mov 0 15) (mov 1 8) (mov 2 12) (jump 14)",
			"b0 (t) i K[i]: (open 3 2) (get 4 3 0) (get 5 3 1) (mov 0 5) (mov 1 1) (jump 4)",
			"b1 (t K[i]) i: (get 2 0 0) (const 3 1) (sub 4 3 1) (open 5 2) (get 6 5 0) (get 7 5 1) (mov 0 7) (mov 1 4) (jump 6)",
		},
		// (let x0 (fun x1 x2 i i x2) (let x3 (call x0 5) (pair x3 x3)))
		{"(let a (fun f x i i x) (let b (call a 5) (pair b b)))", "(* i i)",
			"(new 4) (lab 5 b0) (new 6 5 4) (pack 7 6 X[(> i i)] (t)) (const 8 5) (new 9 3) (lab 10 b1) (new 11 10 9) (pack 12 11 K[i] (t K[(* i i)])) (open 13 7) (get 14 13 0) (get 15 13 1) (mov 0 15) (mov 1 8) (mov 2 12) (jump 14)",
			"b0 (t) i K[i]: (open 3 2) (get 4 3 0) (get 5 3 1) (mov 0 5) (mov 1 1) (jump 4)",
			"b1 (t K[(* i i)]) i: (get 2 0 0) (new 3 1 1) (open 4 2) (get 5 4 0) (get 6 4 1) (mov 0 6) (mov 1 3) (jump 5)",
		},
		// (let x0 (fun x1 x2 i (* i i) (pair x2 x2)) (let x3 (call x0 5) (fst x3)))
		{"(let a (fun f x i (* i i) (pair x x)) (let b (call a 5) (fst b)))", "i",
			"(new 4) (lab 5 b0) (new 6 5 4) (pack 7 6 X[(> i (* i i))] (t)) (const 8 5) (new 9 3) (lab 10 b1) (new 11 10 9) (pack 12 11 K[(* i i)] (t K[i])) (open 13 7) (get 14 13 0) (get 15 13 1) (mov 0 15) (mov 1 8) (mov 2 12) (jump 14)",
			"b0 (t) i K[(* i i)]: (new 3 1 1) (open 4 2) (get 5 4 0) (get 6 4 1) (mov 0 6) (mov 1 3) (jump 5)",
			"b1 (t K[i]) (t i i): (get 2 0 0) (get 3 1 0) (open 4 2) (get 5 4 0) (get 6 4 1) (mov 0 6) (mov 1 3) (jump 5)",
		},
		// (let x0 (fun x1 x2 i (* i i) (pair x2 x2)) (let x3 (call x0 5) (snd x3)))
		{"(let a (fun f x i (* i i) (pair x x)) (let b (call a 5) (snd b)))", "i",
			"(new 4) (lab 5 b0) (new 6 5 4) (pack 7 6 X[(> i (* i i))] (t)) (const 8 5) (new 9 3) (lab 10 b1) (new 11 10 9) (pack 12 11 K[(* i i)] (t K[i])) (open 13 7) (get 14 13 0) (get 15 13 1) (mov 0 15) (mov 1 8) (mov 2 12) (jump 14)",
			"b0 (t) i K[(* i i)]: (new 3 1 1) (open 4 2) (get 5 4 0) (get 6 4 1) (mov 0 6) (mov 1 3) (jump 5)",
			"b1 (t K[i]) (t i i): (get 2 0 0) (get 3 1 1) (open 4 2) (get 5 4 0) (get 6 4 1) (mov 0 6) (mov 1 3) (jump 5)",
		},
		// (let x0 (fun x1 x2 i i x2) (let x3 (call x0 5) (fun x4 x5 i i x3)))
		{"(let a (fun f x i i x) (let b (call a 5) (fun g y i i b)))", "(> i i)",
			"(new 4) (lab 5 b0) (new 6 5 4) (pack 7 6 X[(> i i)] (t)) (const 8 5) (new 9 3) (lab 10 b1) (new 11 10 9) (pack 12 11 K[i] (t K[(> i i)])) (open 13 7) (get 14 13 0) (get 15 13 1) (mov 0 15) (mov 1 8) (mov 2 12) (jump 14)",
			"b0 (t) i K[i]: (open 3 2) (get 4 3 0) (get 5 3 1) (mov 0 5) (mov 1 1) (jump 4)",
			"b1 (t K[(> i i)]) i: (get 2 0 0) (new 3 1) (lab 4 b2) (new 5 4 3) (pack 6 5 X[(> i i)] (t i)) (open 7 2) (get 8 7 0) (get 9 7 1) (mov 0 9) (mov 1 6) (jump 8)",
			"b2 (t i) i K[i]: (get 3 0 0) (open 4 2) (get 5 4 0) (get 6 4 1) (mov 0 6) (mov 1 3) (jump 5)",
		},
		// (let x0 (fun x1 x2 i i x2) (let x3 (call x0 5) (call x0 x3)))
		{"(let a (fun f x i i x) (let b (call a 5) (call a b)))", "i",
			"(new 4) (lab 5 b0) (new 6 5 4) (pack 7 6 X[(> i i)] (t)) (const 8 5) (new 9 7 3) (lab 10 b1) (new 11 10 9) (pack 12 11 K[i] (t X[(> i i)] K[i])) (open 13 7) (get 14 13 0) (get 15 13 1) (mov 0 15) (mov 1 8) (mov 2 12) (jump 14)",
			"b0 (t) i K[i]: (open 3 2) (get 4 3 0) (get 5 3 1) (mov 0 5) (mov 1 1) (jump 4)",
			"b1 (t X[(> i i)] K[i]) i: (get 2 0 0) (get 3 0 1) (open 4 2) (get 5 4 0) (get 6 4 1) (mov 0 6) (mov 1 1) (mov 2 3) (jump 5)",
		},
		// (let x0 (fun x1 x2 i i x2) (let x3 (call x0 5) (if x3 1 2)))
		{"(let a (fun f x i i x) (let b (call a 5) (if b 1 2)))", "i",
			"(new 4) (lab 5 b0) (new 6 5 4) (pack 7 6 X[(> i i)] (t)) (const 8 5) (new 9 3) (lab 10 b1) (new 11 10 9) (pack 12 11 K[i] (t K[i])) (open 13 7) (get 14 13 0) (get 15 13 1) (mov 0 15) (mov 1 8) (mov 2 12) (jump 14)",
			"b0 (t) i K[i]: (open 3 2) (get 4 3 0) (get 5 3 1) (mov 0 5) (mov 1 1) (jump 4)",
			"b1 (t K[i]) i: (get 2 0 0) (zero 1 b2) (const 3 2) (open 4 2) (get 5 4 0) (get 6 4 1) (mov 0 6) (mov 1 3) (jump 5)",
			"b2 (t K[i]) i K[i]: (const 3 1) (open 4 2) (get 5 4 0) (get 6 4 1) (mov 0 6) (mov 1 3) (jump 5)",
		},
		// (let x0 (if 0 1 2) (* x0 x0))
		{"(let a (if 0 1 2) (* a a))", "i",
			"(const 4 0) (new 5 3) (lab 6 b0) (new 7 6 5) (pack 8 7 K[i] (t K[i])) (zero 4 b1) (const 9 2) (open 10 8) (get 11 10 0) (get 12 10 1) (mov 0 12) (mov 1 9) (jump 11)",
			"b0 (t K[i]) i: (get 2 0 0) (mul 3 1 1) (open 4 2) (get 5 4 0) (get 6 4 1) (mov 0 6) (mov 1 3) (jump 5)",
			"b1 (t) (c (t) i) (t (c (t) i) (t)) K[i] i (t K[i]) (c (t K[i]) i) (t (c (t K[i]) i) (t K[i])) K[i]: (const 9 1) (open 10 8) (get 11 10 0) (get 12 10 1) (mov 0 12) (mov 1 9) (jump 11)",
		},
	}
}

func TestCompileEachHead(t *testing.T) {
	checkHandmade(t, headsAtTheEnd())
	checkHandmade(t, headsInALet())
	checkHandmade(t, headsInARest())
}
