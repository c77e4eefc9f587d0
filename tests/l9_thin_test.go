package tests

import (
	"slices"
	"strconv"
	"strings"
	"testing"

	"loop.example/typedassembly/impl"
)

// checkThin checks a program without idle instructions, or that ProgramThin fails if it is nil, and what follows from it (P89).
func checkThin(t *testing.T, program []impl.Block, want []impl.Block) {
	t.Helper()
	thin, ok := impl.ProgramThin(program)
	checkMade(t, "ProgramThin of "+listed(program), thin, ok, want)
	if ok != impl.CheckProgram(program) {
		t.Errorf("ProgramThin of\n%.1000s\nis %v", listed(program), ok)
	}
	if !ok {
		return
	}
	if !impl.CheckProgram(thin) {
		t.Errorf("what is thin does not check:\n%.1000s", listed(thin))
	}
	for k := range thin {
		checkIdle(t, thin, k, nil, true)
	}
	again, ok := impl.ProgramThin(thin)
	checkMade(t, "ProgramThin of what is thin", again, ok, thin)
	checkRunsWithLess(t, program, thin, 300)
}

// checkRunsWithLess checks that a program that runs does so too when it is thin, with the same print and no more steps.
func checkRunsWithLess(t *testing.T, program []impl.Block, thin []impl.Block, fuel int) {
	t.Helper()
	printed, steps, ok := impl.Run(program, fuel)
	if !ok {
		return
	}
	if again, took, fine := impl.Run(thin, fuel); !fine || again != printed || took > steps {
		t.Errorf("what is thin runs to %q with %d steps, %v, and not %q with %d", cut(again), took, fine, cut(printed), steps)
	}
}

// thinCase is the code of a block with some Regs, and what is left of it.
type thinCase struct{ regs, code, left string }

func checkThinCases(t *testing.T, cases []thinCase) {
	t.Helper()
	for _, c := range cases {
		var regs []string
		if c.regs != "" {
			regs = itemsOf("(" + c.regs + ")")
		}
		checkThin(t, beside(regs, c.code), beside(regs, c.left))
		if c.regs == "" {
			program := append(beside(nil, "(new 0) (halt 0)"), halts("more")...)
			program[0].Code = itemsOf("(" + c.code + ")")
			want := cloned(program)
			want[0].Code = itemsOf("(" + c.left + ")")
			checkThin(t, program, want)
		}
	}
}

func TestThinBlocks(t *testing.T) {
	closure := "(e (t (c v i) v))"
	checkThinCases(t, []thinCase{
		// Without idle instructions.
		{"i", "(halt 0)", "(halt 0)"},
		{"(c)", "(jump 0)", "(jump 0)"},
		{"", "(const 0 1) (halt 0)", "(const 0 1) (halt 0)"},
		{"", "(const 0 1) (new 1 0) (get 2 1 0) (add 2 2 0) (halt 2)", "(const 0 1) (new 1 0) (get 2 1 0) (add 2 2 0) (halt 2)"},
		{"i i", "(const 2 0) (zero 2 one) (zero 0 none) (lab 1 one) (jump 1)", "(const 2 0) (zero 2 one) (zero 0 none) (lab 1 one) (jump 1)"},
		// With each of the ten heads.
		{"i (t i) (e v)", "(const 5 1) (mov 6 0) (add 7 0 0) (sub 8 0 0) (mul 9 0 0) (new 10 0) (get 11 1 0) (lab 12 none) (pack 13 0 (e v) i) (open 14 2) (halt 0)", "(halt 0)"},
		{"i (t i) (e v)", "(const 5 1) (mov 6 0) (add 7 0 0) (sub 8 0 0) (mul 9 0 0) (new 10 0) (get 11 1 0) (lab 12 none) (pack 13 0 (e v) i) (open 14 2) (jump 12)", "(lab 12 none) (jump 12)"},
		// Rows of which each one is idle only when the one behind it is gone.
		{"", "(const 0 1) (mov 1 0) (mov 2 1) (mov 3 2) (const 4 7) (halt 4)", "(const 4 7) (halt 4)"},
		{"", "(const 0 1) (new 0 0) (new 0 0) (get 0 0 0) (new 0 0) (const 0 7) (halt 0)", "(const 0 7) (halt 0)"},
		{"i", "(new 1 0) (lab 2 two) (new 3 1 2) (pack 4 3 (e (t (t i) (c i (t i)))) i) (open 5 4) (get 6 5 1) (halt 0)", "(halt 0)"},
		{"i", "(new 1 0) (lab 2 two) (new 3 1 2) (pack 4 3 (e (t (t i) (c i (t i)))) i) (open 5 4) (get 6 5 1) (jump 6)", "(new 1 0) (lab 2 two) (new 3 1 2) (pack 4 3 (e (t (t i) (c i (t i)))) i) (open 5 4) (get 6 5 1) (jump 6)"},
		{"i", "(add 1 0 0) (add 2 1 0) (add 3 2 1) (add 4 3 2) (halt 2)", "(add 1 0 0) (add 2 1 0) (halt 2)"},
		{"i i", "(mov 2 0) (mov 0 1) (mov 1 2) (halt 0)", "(mov 0 1) (halt 0)"},
		{"i i", "(mov 2 0) (mov 0 1) (mov 1 2) (halt 1)", "(mov 2 0) (mov 1 2) (halt 1)"},
		// What is not idle for something that is not left out.
		{"i", "(new 1 0) (mov 2 1) (zero 0 two) (mov 3 2) (halt 0)", "(new 1 0) (zero 0 two) (halt 0)"},
		{"i", "(const 1 0) (mov 2 1) (zero 1 none) (mov 1 2) (halt 0)", "(const 1 0) (zero 1 none) (halt 0)"},
		{"i", "(const 1 2) (mov 2 1) (mov 2 2) (const 1 2) (mov 2 1) (halt 2)", "(const 1 2) (mov 2 1) (halt 2)"},
		{"i", "(const 3 3) (const 0 1) (new 1 0) (new 2 1) (lab 2 two) (mov 3 2) (jump 2)", "(const 0 1) (new 1 0) (lab 2 two) (jump 2)"},
		{"i", "(const 0 1) (new 1 0) (new 2 1) (lab 2 one) (mov 3 2) (jump 2)", "(const 0 1) (lab 2 one) (jump 2)"},
		// What a register has that is put anew, and of which an idle instruction gave another type.
		{"i", "(new 0 0) (const 0 2) (halt 0)", "(const 0 2) (halt 0)"},
		{"i", "(mov 1 0) (new 0 0) (mov 0 1) (zero 0 one) (halt 1)", "(mov 1 0) (mov 0 1) (zero 0 one) (halt 1)"},
		// open, behind which the numbers of the unknown types change.
		{closure, "(open 5 0) (open 0 0) (get 2 0 1) (get 3 0 0) (mov 0 2) (const 1 7) (jump 3)", "(open 0 0) (get 2 0 1) (get 3 0 0) (mov 0 2) (const 1 7) (jump 3)"},
		{closure, "(open 1 0) (get 4 1 1) (open 2 0) (get 3 2 0) (get 0 2 1) (mov 5 4) (const 1 7) (jump 3)", "(open 2 0) (get 3 2 0) (get 0 2 1) (const 1 7) (jump 3)"},
		{"(e (t (e v) v))", "(open 1 0) (get 2 1 0) (open 3 2) (open 4 2) (open 5 0) (new 6 4 5 1) (halt 6)", "(open 1 0) (get 2 1 0) (open 4 2) (open 5 0) (new 6 4 5 1) (halt 6)"},
		{"(e v)", "(open 1 0) (open 2 0) (open 3 0) (new 1 2) (halt 3)", "(open 3 0) (halt 3)"},
	})
}

// The numbers of unknown types behind an open that is left out.
func TestThinBlocksHaveOtherUnknownTypes(t *testing.T) {
	program := beside([]string{"(e (t (c v i) v))"}, "(open 5 0) (open 6 0) (open 0 0) (get 2 0 1) (get 3 0 0) (mov 0 2) (const 1 7) (jump 3)")
	checkAt(t, program, 5, 7, 3, "(c a2 i)")
	thin, ok := impl.ProgramThin(program)
	if !ok || len(thin) != 6 {
		t.Fatalf("ProgramThin of\n%s\nis %v", listed(program), ok)
	}
	checkAt(t, thin, 5, 5, 3, "(c a0 i)")
	checkAt(t, thin, 5, 5, 0, "a0")
	checkAt(t, thin, 5, 5, 5, "")
}

func TestThinLongRows(t *testing.T) {
	for n := range (impl.CodeMax - 2) / 2 {
		row := strings.Repeat("(mov 1 0) (mov 0 1) ", n)
		moved := "(mov 0 1) " + row
		checkThinCases(t, []thinCase{{"i", row + "(const 2 5) (halt 2)", "(const 2 5) (halt 2)"}, {"i", row + "(halt 0)", row + "(halt 0)"}, {"i i", moved + "(halt 1)", strings.TrimSuffix(moved, "(mov 0 1) ") + "(halt 1)"}})
	}
	// All blocks at once, in which a number goes through all registers, with tuples that are as wide as they can be ahead of it.
	wide := "(new 1" + strings.Repeat(" 0", 5900) + ")"
	program, want := numbered(impl.BlocksMax), numbered(impl.BlocksMax)
	for k := range program {
		program[k].Code = slices.Repeat([]string{"(const 0 1)", wide}, 20)
		for r := range impl.RegsMax - 1 {
			program[k].Code = append(program[k].Code, "(mov "+strconv.Itoa(r+1)+" "+strconv.Itoa(r)+")")
		}
		program[k].Code = append(program[k].Code, "(halt 0)")
		want[k].Code = []string{"(const 0 1)", "(halt 0)"}
	}
	thin, ok := impl.ProgramThin(program)
	checkMade(t, "ProgramThin of many wide tuples", thin, ok, want)
}

// Thinning goes over all blocks, reached or not, and leaves labels, types and the blocks themselves.
func TestThinPrograms(t *testing.T) {
	program := coded([3]string{"main", "", "(lab 0 b) (const 0 1) (new 1) (lab 2 b) (jump 2)"}, [3]string{"b", "i (t)", "(new 2 0 1) (get 3 2 0) (zero 0 d) (halt 0)"}, [3]string{"unreached", "i", "(const 1 1) (mov 2 1) (halt 0)"}, [3]string{"d", "i", "(lab 1 unreached) (halt 0)"}, [3]string{"same", "", "(new 0) (halt 0)"})
	want := coded([3]string{"main", "", "(const 0 1) (new 1) (lab 2 b) (jump 2)"}, [3]string{"b", "i (t)", "(zero 0 d) (halt 0)"}, [3]string{"unreached", "i", "(halt 0)"}, [3]string{"d", "i", "(halt 0)"}, [3]string{"same", "", "(new 0) (halt 0)"})
	checkThin(t, program, want)
	checkThin(t, want, want)
	// What named a block alone is gone, so that it is not reached any more.
	before, _ := impl.ProgramReach(program)
	after, _ := impl.ProgramReach(want)
	if !slices.Equal(before, []string{"main", "b", "unreached", "d"}) || !slices.Equal(after, []string{"main", "b", "d"}) {
		t.Errorf("%q are reached, and then %q", before, after)
	}
	if size, less := impl.ProgramSize(program), impl.ProgramSize(want); size != 16 || less != 10 {
		t.Errorf("the sizes are %d and %d", size, less)
	}
	// One block that does not check is enough.
	for k := range program {
		for _, code := range []string{"(halt 39)", "(const 5 1) (mov 6 7) (halt 5)", "(const 5 1) (lab 6 none) (halt 5)", "(const 5 1) (jump 5)"} {
			wrong := cloned(program)
			wrong[k].Code = itemsOf("(" + code + ")")
			checkThin(t, wrong, nil)
		}
	}
	for _, list := range sampleLists() {
		if !isProgram(list) {
			checkThin(t, list, nil)
		}
	}
	for _, list := range [][]impl.Block{nil, {}, {{}}, numbered(41), halts("b"), halts("main", "main")} {
		checkThin(t, list, nil)
	}
}

// P89.
func TestThinSamplePrograms(t *testing.T) {
	thinner, less := 0, 0
	for _, program := range sampleLoadings() {
		want := thinnedOf(program)
		checkThin(t, program, want)
		if want == nil {
			continue
		}
		if impl.ProgramSize(want) < impl.ProgramSize(program) {
			thinner++
		}
		_, steps, ok := impl.Run(program, 300)
		if _, took, _ := impl.Run(want, 300); ok && took < steps {
			less++
		}
	}
	if thinner < 500 || less < 250 {
		t.Errorf("of the samples %d have idle instructions, and %d run with less steps", thinner, less)
	}
}

func TestThinProgramsRunAlike(t *testing.T) {
	for _, c := range checkedResults() {
		thin, ok := impl.ProgramThin(c.program)
		checkMade(t, "ProgramThin of "+listed(c.program), thin, ok, thinnedOf(c.program))
		checkRunsWithLess(t, c.program, thin, impl.RunMax)
	}
	// A run of which each turn has an idle instruction gets by with less fuel.
	program := counting(499, 0, 30)
	thin, _ := impl.ProgramThin(program)
	printed, steps, ok := impl.Run(thin, impl.RunMax)
	if !ok || printed != "0" || steps != 5+4*499+30*499 {
		t.Errorf("what is thin runs to %q with %d steps, %v", printed, steps, ok)
	}
	program[1].Code = itemsOf("((zero 0 end) (new 2 1) (sub 0 0 1) (new 2 2) (get 3 2 0) (lab 2 loop) (jump 2))")
	thin, _ = impl.ProgramThin(program)
	_, steps, _ = impl.Run(program, impl.RunMax)
	if printed, less, ok := impl.Run(thin, impl.RunMax); !ok || printed != "0" || less != 5+4*499 || steps != 5+7*499 {
		t.Errorf("what is thin runs to %q with %d steps and not %d, %v", printed, less, steps, ok)
	}
}
