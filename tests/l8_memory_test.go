package tests

import (
	"slices"
	"strings"
	"testing"

	"loop.example/typedassembly/impl"
)

// What is no closed expression with a type is not compiled.
func TestCompileFails(t *testing.T) {
	texts := slices.Concat(noClosed(), stuckExprs(), tooWideExprs(), noExprs(), []string{
		"", " ", "7 ", " 7", "(+ 1  2)", "(+  1 2)", "( + 1 2)", "(+ 1 2 )", "(+ 1 2)\n", "(+ 1\t2)", "(+ 1 2) 3", "(+ 1 2", "+ 1 2", "(+ 1 2))", "((+ 1 2))", "(let a  5 a)", "(fun f x i i  x)", "(fun f x (> i  i) i 0)",
		"a", "f", "i", "(+ a 1)", "(let a b a)", "(let a 1 b)", "(let a a a)", "(fun f x i i y)", "(pair 1 (fun f x i i (+ x a)))", "(if 0 1 a)", "(call (fun f x i i x) x)", "(let a (let b 1 b) b)",
		"(fst 1)", "(+ 1 (pair 2 3))", "(if (pair 0 0) 1 2)", "(if 0 1 (pair 1 2))", "(call 1 2)", "(call (fun f x i i x) (pair 1 2))", "(fun f x i i (pair x x))", "(fun f x i (> i i) f)", "(fun f x i i f)", "(let f (fun f x i i x) (+ f 1))",
		"(fun f f i i f)", "(fun f f i i 1)", "(fun x x i i (call x x))", "(fun f x i i)", "(fun f x i v x)", "(fun f x (e v) i 0)", "(let 1 a a)", "(lab 0 main)", "main", "(halt 1)", "(t)",
	})
	for _, text := range texts {
		if isTyped(text) {
			t.Fatalf("%q has a type", cut(text))
		}
		checkNotCompiled(t, text)
	}
	// Each byte that is left out or put in.
	for _, text := range []string{"(let a 5 (call (fun f x i i (if x a (call f (- x 1)))) 2))", "(pair (fst (pair 1 2)) -3)"} {
		for at := range len(text) {
			for _, other := range []string{text[:at] + text[at+1:], text[:at] + " " + text[at:], text[:at] + ")" + text[at:], text[:at] + "\x00" + text[at+1:]} {
				if want := compiledOf(other); want == nil {
					checkNotCompiled(t, other)
				} else {
					checkCompiled(t, other, want)
				}
			}
		}
	}
}

// memoryTexts are expressions whose programs have blocks of each kind, and blocks with the same Regs and code.
func memoryTexts() []string {
	return []string{"7", "(let a 3 (pair a (fun f x i i (+ x a))))", "(pair (fun f x i i x) (fun f x i i x))", "(if 0 (if 1 2 3) (if 4 2 3))", "(let f (fun f x i i (if x 1 (* x (call f (- x 1))))) (+ (call f 5) (if (call f 3) 1 2)))"}
}

// wholeTexts are all lists of texts of a program, with the room behind them.
func wholeTexts(program []impl.Block) [][]string {
	var lists [][]string
	for _, b := range program[:cap(program)] {
		lists = append(lists, b.Regs[:cap(b.Regs)], b.Code[:cap(b.Code)])
	}
	return lists
}

func TestCompiledProgramsAreNewMemory(t *testing.T) {
	for _, text := range memoryTexts() {
		want := compiledOf(text)
		first, _ := impl.Compile(text)
		second, _ := impl.Compile(text)
		labels, _ := impl.CompileLabels(text)
		for k := range wholeTexts(first) {
			changed := wholeTexts(first)[k]
			before := slices.Clone(changed)
			for n := range changed {
				changed[n] = "changed"
			}
			for n, list := range wholeTexts(first) {
				if n != k && slices.Contains(list, "changed") {
					t.Errorf("Compile(%q) shares memory within its result", text)
				}
			}
			copy(changed, before)
		}
		for _, list := range wholeTexts(first) {
			for n := range list {
				list[n] = "changed"
			}
		}
		for k := range first[:cap(first)] {
			first[:cap(first)][k] = impl.Block{}
		}
		third, _ := impl.Compile(text)
		if !sameProgram(second, want) || !sameProgram(third, want) {
			t.Errorf("Compile(%q) shares memory with other results", text)
		}
		for k := range labels[:cap(labels)] {
			labels[:cap(labels)][k] = "changed"
		}
		if again, _ := impl.CompileLabels(text); len(again) != len(want) || slices.Contains(again, "changed") {
			t.Errorf("CompileLabels(%q) shares memory with other results", text)
		}
	}
}

func TestCompiledProgramsAreNewTexts(t *testing.T) {
	text := strings.Clone("(let a 123 (let b (if 0 (fun f x i i (+ x 123)) (fun f x i i (call f 456))) (call b a)))")
	program, ok := impl.Compile(text)
	printed, _ := impl.CompileRun(text)
	if !ok || printed != "246" {
		t.Fatalf("CompileRun(%q) is %q", text, printed)
	}
	results := []string{printed}
	for _, b := range program {
		results = slices.Concat(results, b.Regs, b.Code)
	}
	for k, result := range results {
		if overlaps(text, result) {
			t.Errorf("%q shares memory with the expression", result)
		}
		for _, other := range results[:k] {
			if len(result) > 1 && overlaps(other, result) {
				t.Errorf("%q shares memory with %q", result, other)
			}
		}
	}
}

// What is compiled does not depend on what was compiled before.
func TestCompileKeepsNothing(t *testing.T) {
	texts := append(memoryTexts(), inConsts(34, "b"), "(fst 1)", "", "(call (fun f x i i (call f x)) 0)")
	for _, first := range texts {
		for _, text := range texts {
			impl.Compile(first)
			impl.CompileRun(first)
			want := compiledOf(text)
			if want == nil {
				checkNotCompiled(t, text)
				continue
			}
			checkCompiled(t, text, want)
		}
	}
}
