package tests

import (
	"slices"
	"strconv"
	"strings"
	"testing"

	"loop.example/typedassembly/impl"
)

// checkNamed checks the labels that a program names, those of them that it wants and those that are reached, and what is trimmed (P85, P86 and P87).
func checkNamed(t *testing.T, program []impl.Block, names []string, wants []string, reach []string) {
	t.Helper()
	is := isProgram(program)
	found, ok := impl.ProgramNames(program)
	checkLabels(t, "ProgramNames of "+listed(program), found, ok, names, is)
	wanted, ok := impl.ProgramWants(program)
	checkLabels(t, "ProgramWants of "+listed(program), wanted, ok, wants, is)
	reached, ok := impl.ProgramReach(program)
	checkLabels(t, "ProgramReach of "+listed(program), reached, ok, reach, is)
	trimmed, ok := impl.ProgramTrim(program)
	if ok != is || !slices.Equal(labelsOf(trimmed), reach) {
		t.Errorf("ProgramTrim of\n%.1000s\nis %v:\n%.1000s", listed(program), ok, listed(trimmed))
	}
	if !is {
		return
	}
	for _, label := range found {
		if at := impl.ProgramFind(program, label); (at < 0) != slices.Contains(wanted, label) {
			t.Errorf("%q is at %d of\n%.1000s", cut(label), at, listed(program))
		}
	}
	if impl.CheckProgram(program) && len(wanted) > 0 {
		t.Errorf("what checks wants %q", wanted)
	}
	checkTrimmed(t, program, trimmed)
}

// checkTrimmed checks what is left of a program when it is trimmed.
func checkTrimmed(t *testing.T, program []impl.Block, trimmed []impl.Block) {
	t.Helper()
	if len(trimmed) == 0 || trimmed[0].Label != "main" || !impl.ProgramValid(trimmed) {
		t.Errorf("what is trimmed is no program:\n%.1000s", listed(trimmed))
		return
	}
	wants, _ := impl.ProgramWants(program)
	for _, b := range trimmed {
		at := impl.ProgramFind(program, b.Label)
		if at < 0 || !sameProgram([]impl.Block{b}, program[at:at+1]) {
			t.Errorf("the block %q is trimmed to %.300q", cut(b.Label), b.Code)
		}
		for _, label := range namedBy(b) {
			if !slices.Contains(labelsOf(trimmed), label) && !slices.Contains(wants, label) {
				t.Errorf("what is trimmed has no block %q", cut(label))
			}
		}
	}
	again, ok := impl.ProgramTrim(trimmed)
	checkMade(t, "ProgramTrim of what is trimmed", again, ok, trimmed)
	if impl.CheckProgram(program) && !impl.CheckProgram(trimmed) {
		t.Errorf("what is trimmed does not check:\n%.1000s", listed(trimmed))
	}
	checkRunsAlike(t, program, trimmed, 200)
	for _, n := range []int{0, 1, 17} {
		first, steps, _ := impl.RunMany(program, n)
		second, took, ok := impl.RunMany(trimmed, n)
		if !ok || took != steps || !sameState(first, second) {
			t.Errorf("behind %d steps what is trimmed is at %s and not %s", n, shown(second), shown(first))
		}
	}
}

// checkRunsAlike checks that two programs have the same print behind as many steps, or none, or get stuck both.
func checkRunsAlike(t *testing.T, program []impl.Block, other []impl.Block, fuel int) {
	t.Helper()
	first, steps, ok := impl.Run(program, fuel)
	second, took, fine := impl.Run(other, fuel)
	if first != second || steps != took || ok != fine || impl.RunStuck(program, fuel) != impl.RunStuck(other, fuel) {
		t.Errorf("what runs to %q with %d steps, %v, runs then to %q with %d steps, %v", cut(first), steps, ok, cut(second), took, fine)
	}
}

// halts are blocks that halt, each with a label.
func halts(labels ...string) []impl.Block {
	var program []impl.Block
	for _, label := range labels {
		program = append(program, impl.Block{Label: label, Code: []string{"(const 0 1)", "(halt 0)"}})
	}
	return program
}

func TestLabelsWithoutBlocks(t *testing.T) {
	cases := []struct {
		code                string
		names, wants, reach []string
	}{
		{"(const 0 1) (halt 0)", nil, nil, nil},
		{"(halt 0)", nil, nil, nil},
		{"(lab 0 none) (halt 0)", []string{"none"}, []string{"none"}, nil},
		{"(zero 0 none) (halt 0)", []string{"none"}, []string{"none"}, nil},
		{"(lab 0 none) (lab 1 none) (zero 0 none) (halt 0)", []string{"none"}, []string{"none"}, nil},
		{"(zero 0 none) (lab 0 none) (halt 0)", []string{"none"}, []string{"none"}, nil},
		{"(lab 0 y) (lab 0 x) (halt 0)", []string{"y", "x"}, []string{"y", "x"}, nil},
		{"(lab 0 x) (zero 0 y) (halt 0)", []string{"x", "y"}, []string{"x", "y"}, nil},
		{"(zero 0 x) (lab 0 y) (zero 0 x) (halt 0)", []string{"x", "y"}, []string{"x", "y"}, nil},
		{"(lab 0 main) (halt 0)", []string{"main"}, nil, nil},
		{"(zero 0 main) (jump 0)", []string{"main"}, nil, nil},
		{"(lab 0 b) (halt 0)", []string{"b"}, nil, []string{"b"}},
		{"(zero 0 d) (halt 0)", []string{"d"}, nil, []string{"d"}},
		{"(lab 0 d) (lab 1 b) (halt 0)", []string{"d", "b"}, nil, []string{"b", "d"}},
		{"(lab 0 none) (lab 1 b) (zero 1 nowhere) (lab 2 main) (halt 0)", []string{"none", "b", "nowhere", "main"}, []string{"none", "nowhere"}, []string{"b"}},
		{"(lab 0 none) (lab 1 b) (lab 2 none) (lab 3 b) (halt 0)", []string{"none", "b"}, []string{"none"}, []string{"b"}},
		// Labels that are like those of the blocks, and heads and types.
		{"(lab 0 bb) (lab 1 b0) (lab 2 dmain) (lab 3 mai) (halt 0)", []string{"bb", "b0", "dmain", "mai"}, []string{"bb", "b0", "dmain", "mai"}, nil},
		{"(const 0 1) (pack 0 0 (e (t v i (c i))) (t (c))) (lab 0 b) (halt 0)", []string{"b"}, nil, []string{"b"}},
		{"(const 0 1) (pack 0 0 (e v) i) (lab 1 i) (lab 2 v) (lab 3 e) (lab 4 lab) (lab 5 zero) (halt 0)", []string{"i", "v", "e", "lab", "zero"}, []string{"i", "v", "e", "lab", "zero"}, nil},
	}
	for _, c := range cases {
		program := append([]impl.Block{{Label: "main", Code: itemsOf("(" + c.code + ")")}}, halts("b", "d")...)
		if !isProgram(program) {
			t.Fatalf("%q is no code", c.code)
		}
		checkNamed(t, program, c.names, c.wants, append([]string{"main"}, c.reach...))
	}
}

func TestLabelsOverAllBlocks(t *testing.T) {
	block := func(label string, code string) [3]string { return [3]string{label, "", code} }
	cases := []struct {
		program             []impl.Block
		names, wants, reach []string
	}{
		// In a block that is not reached.
		{coded(block("main", "(halt 0)"), block("b", "(lab 0 none) (halt 0)")), []string{"none"}, []string{"none"}, []string{"main"}},
		{coded(block("main", "(lab 0 y) (halt 0)"), block("b", "(lab 0 x) (zero 0 y) (zero 1 z) (halt 0)")), []string{"y", "x", "z"}, []string{"y", "x", "z"}, []string{"main"}},
		{coded(block("main", "(lab 0 y) (halt 0)"), block("x", "(lab 0 y) (lab 0 x) (lab 1 none) (halt 0)"), block("y", "(zero 0 none) (lab 0 main) (halt 0)")), []string{"y", "x", "none", "main"}, []string{"none"}, []string{"main", "y"}},
		// A block that only one names that is not reached, and which names one that is.
		{coded(block("main", "(lab 0 d) (halt 0)"), block("b", "(lab 0 x) (halt 0)"), block("d", "(halt 0)"), block("x", "(lab 0 d) (zero 0 b) (halt 0)")), []string{"d", "x", "b"}, nil, []string{"main", "d"}},
		// Blocks that name themselves.
		{coded(block("main", "(lab 0 main) (zero 0 b) (halt 0)"), block("b", "(lab 0 b) (halt 0)"), block("d", "(zero 0 d) (halt 0)")), []string{"main", "b", "d"}, nil, []string{"main", "b"}},
		// Chains, forwards and backwards, and circles.
		{coded(block("main", "(lab 0 b1) (halt 0)"), block("b1", "(zero 0 b2) (halt 0)"), block("b2", "(lab 0 b3) (halt 0)"), block("b3", "(halt 0)"), block("b4", "(halt 0)")), []string{"b1", "b2", "b3"}, nil, []string{"main", "b1", "b2", "b3"}},
		{coded(block("main", "(lab 0 b4) (halt 0)"), block("b0", "(lab 0 b1) (halt 0)"), block("b1", "(halt 0)"), block("b2", "(zero 0 b1) (halt 0)"), block("b3", "(lab 0 b2) (halt 0)"), block("b4", "(lab 0 b3) (halt 0)")),
			[]string{"b4", "b1", "b2", "b3"}, nil, []string{"main", "b1", "b2", "b3", "b4"}},
		{coded(block("main", "(zero 0 c) (halt 0)"), block("a", "(lab 0 b) (halt 0)"), block("b", "(lab 0 c) (halt 0)"), block("c", "(zero 0 a) (halt 0)")), []string{"c", "b", "a"}, nil, []string{"main", "a", "b", "c"}},
		{coded(block("main", "(zero 0 main) (halt 0)"), block("a", "(lab 0 b) (halt 0)"), block("b", "(lab 0 c) (halt 0)"), block("c", "(zero 0 a) (lab 1 main) (halt 0)")), []string{"main", "b", "c", "a"}, nil, []string{"main"}},
		// Several ways to one block, and a way that ends without a block.
		{coded(block("main", "(lab 0 x) (zero 0 y) (halt 0)"), block("y", "(lab 0 z) (lab 1 none) (halt 0)"), block("z", "(halt 0)"), block("x", "(zero 0 z) (halt 0)"), block("w", "(lab 0 none) (lab 1 nowhere) (halt 0)")),
			[]string{"x", "y", "z", "none", "nowhere"}, []string{"none", "nowhere"}, []string{"main", "y", "z", "x"}},
		{coded(block("main", "(lab 0 none) (halt 0)"), block("no", "(lab 0 none) (halt 0)"), block("nonee", "(halt 0)")), []string{"none"}, []string{"none"}, []string{"main"}},
	}
	for _, c := range cases {
		checkNamed(t, c.program, c.names, c.wants, c.reach)
	}
}

// inChain are blocks each of which names the next one, which stands behind or ahead of it.
func inChain(n int, backwards bool) []impl.Block {
	program := []impl.Block{{Label: "main", Code: []string{"(lab 0 b1)", "(halt 0)"}}}
	for k := 1; k < n; k++ {
		program = append(program, impl.Block{Label: "b" + strconv.Itoa(k), Code: []string{"(lab 0 b" + strconv.Itoa(k+1) + ")", "(halt 0)"}})
	}
	program[n-1].Code = []string{"(const 0 1)", "(halt 0)"}
	if backwards {
		slices.Reverse(program[1:])
	}
	return program
}

func TestLabelsInChains(t *testing.T) {
	for _, n := range []int{2, 3, 10, impl.BlocksMax} {
		for _, backwards := range []bool{false, true} {
			program := inChain(n, backwards)
			checkNamed(t, program, namedIn(program), nil, labelsOf(program))
			if len(namedIn(program)) != n-1 {
				t.Fatalf("the oracle tells the names %q", namedIn(program))
			}
			// Without a block of it, those behind this one are not reached.
			for gap := 1; gap < n; gap++ {
				broken := slices.Delete(cloned(program), gap, gap+1)
				reach := trimmedOf(broken)
				checkNamed(t, broken, namedIn(broken), []string{program[gap].Label}, labelsOf(reach))
				number, _ := strconv.Atoi(program[gap].Label[1:])
				if len(reach) != number {
					t.Errorf("without %q there are %d blocks", program[gap].Label, len(reach))
				}
			}
		}
	}
}

func TestLabelsOfManyInstructions(t *testing.T) {
	var names []string
	program := numbered(1)
	program[0].Code = nil
	for k := range impl.CodeMax - 1 {
		names = append(names, "x"+strconv.Itoa(k))
		program[0].Code = append(program[0].Code, "("+[]string{"lab", "zero"}[k%2]+" "+strconv.Itoa(k%impl.RegsMax)+" x"+strconv.Itoa(k)+")")
	}
	program[0].Code = append(program[0].Code, "(halt 0)")
	checkNamed(t, program, names, names, []string{"main"})
	for k := 1; k < impl.BlocksMax; k++ {
		program = append(program, impl.Block{Label: names[2*k], Code: program[0].Code})
	}
	var wants []string
	for k, name := range names {
		if k == 0 || k%2 == 1 {
			wants = append(wants, name)
		}
	}
	checkNamed(t, program, names, wants, labelsOf(program))
	// Labels that are as long as they can be, and differ at the end.
	long := strings.Repeat("x", impl.FormMax-9)
	program = append(halts("main", long+"a"), impl.Block{Label: long + "b", Code: []string{"(lab 0 " + long + "b)", "(lab 1 " + long + "a)", "(lab 2 " + long + "c)", "(halt 0)"}})
	checkNamed(t, program, []string{long + "b", long + "a", long + "c"}, []string{long + "c"}, []string{"main"})
	program[0].Code = []string{"(lab 0 " + long + "b)", "(halt 0)"}
	checkNamed(t, program, []string{long + "b", long + "a", long + "c"}, []string{long + "c"}, []string{"main", long + "a", long + "b"})
}

func TestLabelsOfNoPrograms(t *testing.T) {
	lists := [][]impl.Block{nil, {}, {{}}, numbered(41), numbered(3)[1:], append(numbered(2), numbered(2)...), {{Label: "main", Code: []string{"(lab 0 main)"}}}, {{Label: "main", Regs: []string{"i"}, Code: []string{"(lab 0 main)", "(halt 0)"}}}}
	for _, list := range append(lists, sampleLists()...) {
		if !isProgram(list) {
			checkNamed(t, list, nil, nil, nil)
			if size := impl.ProgramSize(list); size != -1 {
				t.Errorf("ProgramSize of no program is %d", size)
			}
		}
	}
}

// ProgramFind, CheckProgram and Run beside labels without blocks.
func TestProgramsThatWantBlocks(t *testing.T) {
	program := coded([3]string{"main", "", "(const 0 7) (lab 1 b) (zero 0 b) (halt 0)"}, [3]string{"b", "", "(lab 0 none) (halt 0)"}, [3]string{"d", "", "(const 0 0) (zero 0 nowhere) (halt 0)"})
	if impl.CheckProgram(program) || !impl.CheckBlock(program, 0) || impl.CheckBlock(program, 1) || impl.CheckBlock(program, 2) {
		t.Errorf("of the blocks check %v, %v and %v", impl.CheckBlock(program, 0), impl.CheckBlock(program, 1), impl.CheckBlock(program, 2))
	}
	if impl.ProgramFind(program, "none") != -1 || impl.ProgramFind(program, "nowhere") != -1 || impl.ProgramFind(program, "d") != 2 {
		t.Errorf("ProgramFind finds a block that is not there")
	}
	if printed, steps, ok := impl.Run(program, 9); !ok || printed != "7" || steps != 3 {
		t.Errorf("Run is %q, %d, %v", printed, steps, ok)
	}
	checkNamed(t, program, []string{"b", "none", "nowhere"}, []string{"none", "nowhere"}, []string{"main", "b"})
	program[0].Code[0] = "(const 0 0)"
	if _, _, ok := impl.Run(program, 9); ok || !impl.RunStuck(program, 9) {
		t.Errorf("a run that comes to a label without a block is not stuck")
	}
	// With blocks for them it checks.
	for k, label := range []string{"none", "nowhere"} {
		program = append(program, halts(label)...)
		wants, ok := impl.ProgramWants(program)
		checkLabels(t, "ProgramWants", wants, ok, [][]string{{"nowhere"}, nil}[k], true)
		if impl.CheckProgram(program) != (k == 1) {
			t.Errorf("with %d blocks CheckProgram is %v", len(program), impl.CheckProgram(program))
		}
	}
}

// P81.
func TestLabelsOfCompiledPrograms(t *testing.T) {
	compiled := 0
	for k, text := range sampleCompilings() {
		program, ok := impl.Compile(text)
		if !ok || k%3 != 0 {
			continue
		}
		compiled++
		names, _ := impl.ProgramNames(program)
		slices.Sort(names)
		others := labelsOf(program)[1:]
		slices.Sort(others)
		if !slices.Equal(names, others) || len(program) < 2 || !impl.CheckProgram(program) {
			t.Errorf("the program of %q names %q, of %q", text, names, others)
		}
		checkNamed(t, program, namedIn(program), nil, labelsOf(program))
	}
	if compiled < 300 {
		t.Errorf("just %d of the samples are compiled", compiled)
	}
}

// P85, P86, P87 and P92.
func TestLabelsOfSamplePrograms(t *testing.T) {
	linked := 0
	for _, program := range sampleLoadings() {
		trimmed, ok := impl.ProgramTrim(program)
		checkMade(t, "ProgramTrim of "+listed(program), trimmed, ok, trimmedOf(program))
		wants := wantedIn(program)
		checkNamed(t, program, namedIn(program), wants, labelsOf(trimmedOf(program)))
		if len(wants) == 0 {
			continue
		}
		if impl.CheckProgram(program) {
			t.Errorf("what wants %q checks", wants)
		}
		more, ok := impl.ProgramLink(program, append(halts("main"), halts(wants[0])...))
		if !ok {
			continue
		}
		linked++
		left, ok := impl.ProgramWants(more)
		checkLabels(t, "ProgramWants of "+listed(more), left, ok, wants[1:], true)
	}
	if linked < 400 {
		t.Errorf("just %d of the samples are linked", linked)
	}
}

// Programs that end and that never end run alike when they are trimmed.
func TestTrimmedProgramsRunAlike(t *testing.T) {
	unreached := coded([3]string{"u0", "i", "(lab 1 u1) (lab 2 none) (halt 0)"}, [3]string{"u1", "(c)", "(lab 1 u0) (lab 2 main) (jump 0)"})
	for _, program := range fixedPrograms() {
		for k := range program {
			more := slices.Insert(cloned(program), k+1, unreached...)
			trimmed, ok := impl.ProgramTrim(more)
			checkMade(t, "ProgramTrim of "+listed(more), trimmed, ok, trimmedOf(program))
			checkRunsAlike(t, more, trimmed, impl.RunMax)
		}
	}
}
