package tests

import (
	"math/rand"
	"slices"
	"strconv"
	"strings"
	"testing"

	"loop.example/typedassembly/impl"
)

// checkRename checks a program with a label as another one, or that ProgramRename fails if it is nil, and what follows from it (P90).
func checkRename(t *testing.T, program []impl.Block, label string, other string, want []impl.Block) {
	t.Helper()
	what := "ProgramRename of " + cut(label) + " as " + cut(other) + " in " + listed(program)
	renamed, ok := impl.ProgramRename(program, label, other)
	checkMade(t, what, renamed, ok, want)
	if !ok {
		return
	}
	back, ok := impl.ProgramRename(renamed, other, label)
	checkMade(t, what+" and back", back, ok, program)
	if impl.CheckProgram(program) != impl.CheckProgram(renamed) {
		t.Errorf("CheckProgram is %v behind %s", impl.CheckProgram(renamed), what)
	}
	if impl.ProgramFind(renamed, other) != impl.ProgramFind(program, label) || impl.ProgramFind(renamed, label) != -1 {
		t.Errorf("%q is at %d behind %s", cut(other), impl.ProgramFind(renamed, other), what)
	}
	checkRunsAlike(t, program, renamed, 200)
}

func TestRenamedLabels(t *testing.T) {
	program := coded([3]string{"main", "", "(const 0 0) (lab 1 b) (zero 0 b) (lab 2 bb) (lab 3 none) (zero 0 main) (halt 0)"}, [3]string{"b", "i (c)", "(lab 2 b) (zero 0 b) (pack 3 0 (e v) i) (lab 39 d) (halt 0)"},
		[3]string{"bb", "", "(lab 0 b) (halt 0)"}, [3]string{"d", "i", "(const 1 0) (zero 1 d) (zero 0 nowhere) (lab 2 main) (jump 2)"}, [3]string{"lonely", "(e v)", "(const 5 5) (lab 1 i) (halt 5)"}, [3]string{"i", "i (t i)", "(halt 0)"})
	// In its own block and in others, by lab and by zero.
	checkRename(t, program, "b", "x", coded([3]string{"main", "", "(const 0 0) (lab 1 x) (zero 0 x) (lab 2 bb) (lab 3 none) (zero 0 main) (halt 0)"}, [3]string{"x", "i (c)", "(lab 2 x) (zero 0 x) (pack 3 0 (e v) i) (lab 39 d) (halt 0)"},
		[3]string{"bb", "", "(lab 0 x) (halt 0)"}, [3]string{"d", "i", "(const 1 0) (zero 1 d) (zero 0 nowhere) (lab 2 main) (jump 2)"}, [3]string{"lonely", "(e v)", "(const 5 5) (lab 1 i) (halt 5)"}, [3]string{"i", "i (t i)", "(halt 0)"}))
	// As what is a type, in a program with types.
	checkRename(t, program, "d", "v", coded([3]string{"main", "", "(const 0 0) (lab 1 b) (zero 0 b) (lab 2 bb) (lab 3 none) (zero 0 main) (halt 0)"}, [3]string{"b", "i (c)", "(lab 2 b) (zero 0 b) (pack 3 0 (e v) i) (lab 39 v) (halt 0)"},
		[3]string{"bb", "", "(lab 0 b) (halt 0)"}, [3]string{"v", "i", "(const 1 0) (zero 1 v) (zero 0 nowhere) (lab 2 main) (jump 2)"}, [3]string{"lonely", "(e v)", "(const 5 5) (lab 1 i) (halt 5)"}, [3]string{"i", "i (t i)", "(halt 0)"}))
	checkRename(t, program, "i", "code", coded([3]string{"main", "", "(const 0 0) (lab 1 b) (zero 0 b) (lab 2 bb) (lab 3 none) (zero 0 main) (halt 0)"}, [3]string{"b", "i (c)", "(lab 2 b) (zero 0 b) (pack 3 0 (e v) i) (lab 39 d) (halt 0)"},
		[3]string{"bb", "", "(lab 0 b) (halt 0)"}, [3]string{"d", "i", "(const 1 0) (zero 1 d) (zero 0 nowhere) (lab 2 main) (jump 2)"}, [3]string{"lonely", "(e v)", "(const 5 5) (lab 1 code) (halt 5)"}, [3]string{"code", "i (t i)", "(halt 0)"}))
	// One that nothing names.
	lonely := cloned(program)
	lonely[4].Label = "zero"
	checkRename(t, program, "lonely", "zero", lonely)
	for _, other := range []string{"a", "z", "x0", "x00", "b0", "b1b", "mainly", "mai", "lab", "const", "e", "t", "c", "regs", "program", strings.Repeat("n", 1000)} {
		for _, label := range []string{"b", "bb", "d", "lonely", "i"} {
			checkRename(t, program, label, other, renamedOf(program, label, other))
		}
	}
	// main, and labels without a block.
	for _, label := range []string{"main", "none", "nowhere", "x", "", "B", "b ", " b", "0", "(b)", "v", "mai", "Main", "bbb", "\x00", strings.Repeat("b", 1<<16)} {
		for _, other := range []string{"x", "y", "main", "none", "", "b"} {
			checkRename(t, program, label, other, nil)
		}
	}
	// What is the label of a block, or named already, is no label, or the old one.
	for _, label := range []string{"b", "bb", "d", "lonely", "i"} {
		for _, other := range []string{
			"main", "b", "bb", "d", "lonely", "i", "none", "nowhere", "", " ", "0", "0x", "9b", "-b", "b-", "+", "*", ">", "x+", "x>", "X", "xY", "x y", "x ", " x", "()", "(x)", "(x", "x)", "x) (halt 0", "x\n", "x\x00", "é", "\xff", "7", "-1",
			strings.Repeat("x", impl.FormMax+1), strings.Repeat("x", 1<<20),
		} {
			checkRename(t, program, label, other, nil)
		}
	}
	for _, list := range [][]impl.Block{nil, {}, {{}}, numbered(41), append(numbered(3), numbered(2)...), numbered(3)[1:], append(numbered(2), impl.Block{Label: "b2"})} {
		checkRename(t, list, "b1", "x", nil)
	}
}

// A label that is longer makes the instructions longer that name it.
func TestRenamedLabelsThatAreLong(t *testing.T) {
	most := impl.FormMax
	cases := []struct {
		code string
		most int
	}{
		{"(const 0 1) (halt 0)", most}, {"(lab 0 b) (halt 0)", most - 8}, {"(lab 10 b) (halt 0)", most - 9}, {"(zero 0 b) (halt 0)", most - 9}, {"(zero 39 b) (halt 0)", most - 10}, {"(lab 0 b) (zero 39 b) (halt 0)", most - 10}, {"(lab 0 b) (zero 39 d) (halt 0)", most - 8},
	}
	for _, c := range cases {
		for _, own := range []bool{false, true} {
			program := halts("main", "b", "d")
			program[map[bool]int{false: 0, true: 1}[own]].Code = itemsOf("(" + c.code + ")")
			for _, n := range []int{1, 100, c.most - 1, c.most, c.most + 1, most, most + 1} {
				other := strings.Repeat("x", n)
				want := renamedOf(program, "b", other)
				if (want != nil) != (n <= c.most) {
					t.Fatalf("the oracle renames %q to %d letters", c.code, n)
				}
				checkRename(t, program, "b", other, want)
				// Back from the long one is checked with it, and to one as long.
				if want != nil && n > 100 {
					checkRename(t, want, other, "y"+other[1:], renamedOf(program, "b", "y"+other[1:]))
				}
			}
		}
	}
	// Each instruction of each block.
	program := numbered(impl.BlocksMax)
	for k := range program {
		program[k].Code = append(slices.Repeat([]string{"(lab 0 b7)"}, impl.CodeMax-1), "(halt 0)")
	}
	for _, n := range []int{most - 8, most - 7} {
		renamed, ok := impl.ProgramRename(program, "b7", strings.Repeat("x", n))
		if ok != (n == most-8) || ok && (len(renamed) != impl.BlocksMax || len(renamed[39].Code[78]) != most) {
			t.Errorf("ProgramRename with %d letters is %v", n, ok)
		}
	}
}

// P90.
func TestRenamedSamplePrograms(t *testing.T) {
	r := rand.New(rand.NewSource(52))
	renamed := 0
	for _, program := range sampleLoadings() {
		labels := append(labelsOf(program), namedIn(program)...)
		for range 3 {
			label := labels[r.Intn(len(labels))]
			other := append(labels, "x", "y9", "const", "v", "e", "none", "program", "0", label+"0")[r.Intn(len(labels)+9)]
			want := renamedOf(program, label, other)
			if want != nil {
				renamed++
			}
			checkRename(t, program, label, other, want)
		}
	}
	if renamed < 1000 {
		t.Errorf("just %d of the samples are renamed", renamed)
	}
	for _, c := range checkedResults() {
		for _, b := range c.program[1:] {
			other, ok := impl.ProgramRename(c.program, b.Label, "renamed")
			checkMade(t, "ProgramRename of "+listed(c.program), other, ok, renamedOf(c.program, b.Label, "renamed"))
			checkRunsAlike(t, c.program, other, impl.RunMax)
		}
	}
}

// checkLink checks the blocks of two programs, or that ProgramLink fails if they are nil, and what follows from it (P91).
func checkLink(t *testing.T, a []impl.Block, b []impl.Block, want []impl.Block) {
	t.Helper()
	what := "ProgramLink of " + listed(a) + "\nand " + listed(b)
	linked, ok := impl.ProgramLink(a, b)
	checkMade(t, what, linked, ok, want)
	if !ok {
		return
	}
	if len(linked) != len(a)+len(b)-1 || impl.ProgramSize(linked) != impl.ProgramSize(a)+impl.ProgramSize(b)-len(b[0].Code) {
		t.Errorf("%s has %d blocks and the size %d", cut(what), len(linked), impl.ProgramSize(linked))
	}
	if wants, _ := impl.ProgramWants(a); len(wants) == 0 {
		trimmed, _ := impl.ProgramTrim(a)
		again, ok := impl.ProgramTrim(linked)
		checkMade(t, "ProgramTrim of "+what, again, ok, trimmed)
		checkRunsAlike(t, a, linked, 200)
	}
	for k := range a {
		if impl.CheckBlock(a, k) && !impl.CheckBlock(linked, k) {
			t.Errorf("block %d does not check behind %s", k, what)
		}
	}
}

func TestLinkedPrograms(t *testing.T) {
	first := coded([3]string{"main", "", "(const 0 7) (lab 1 plus) (jump 1)"}, [3]string{"end", "i", "(halt 0)"})
	second := coded([3]string{"main", "", "(lab 0 hidden) (lab 1 none) (halt 0)"}, [3]string{"plus", "i", "(add 0 0 0) (lab 1 end) (jump 1)"}, [3]string{"hidden", "", "(halt 0)"})
	// They want each other's blocks; main of the second one is left out, though it alone names a block and a label without one.
	linked := coded([3]string{"main", "", "(const 0 7) (lab 1 plus) (jump 1)"}, [3]string{"end", "i", "(halt 0)"}, [3]string{"plus", "i", "(add 0 0 0) (lab 1 end) (jump 1)"}, [3]string{"hidden", "", "(halt 0)"})
	checkLink(t, first, second, linked)
	checkNamed(t, linked, []string{"plus", "end"}, nil, []string{"main", "end", "plus"})
	if printed, steps, ok := impl.Run(linked, 9); !ok || printed != "14" || steps != 6 {
		t.Errorf("what is linked runs to %q with %d steps, %v", printed, steps, ok)
	}
	if !impl.RunStuck(first, 9) || impl.CheckProgram(first) || impl.CheckProgram(linked) || !impl.CheckBlock(linked, 0) || !impl.CheckBlock(linked, 1) || !impl.CheckBlock(linked, 2) {
		t.Errorf("the wrong blocks check of\n%s", listed(linked))
	}
	checkLink(t, second, first, append(cloned(second), first[1]))
	// What the second one is linked with anew is the main of the first one.
	checkLink(t, linked, halts("main"), linked)
	checkLink(t, halts("main"), linked, append(halts("main"), linked[1:]...))
	checkLink(t, halts("main", "a"), halts("main", "b"), halts("main", "a", "b"))
	checkLink(t, halts("main"), halts("main"), halts("main"))
	checkLink(t, numbered(1), halts("main", "b"), append(numbered(1), halts("b")...))
	checkLink(t, halts("main", "b"), numbered(1), halts("main", "b"))
	// A label in both.
	checkLink(t, halts("main", "b"), halts("main", "b"), nil)
	checkLink(t, halts("main", "a", "b", "c"), halts("main", "d", "e", "a"), nil)
	checkLink(t, halts("main", "a", "b", "c"), halts("main", "c", "d"), nil)
	checkLink(t, linked, first, nil)
	checkLink(t, linked, second, nil)
	checkLink(t, halts("main", "b"), numbered(2), append(halts("main", "b"), numbered(2)[1]))
	// A program with itself.
	for _, program := range [][]impl.Block{first, second, linked, numbered(2), numbered(40)} {
		checkLink(t, program, program, nil)
		checkLink(t, program[:1], program[:1], program[:1])
		checkLink(t, program[:1], program, program)
		checkLink(t, program, program[:1], program)
	}
	// Blocks of the second one with the needs that the first one asks for, and with others.
	wanting := coded([3]string{"main", "", "(const 0 0) (zero 0 b) (halt 0)"})
	for regs, checks := range map[string]bool{"": true, "i": true, "(t)": false, "i i": false} {
		with := coded([3]string{"main", "", "(new 0) (halt 0)"}, [3]string{"b", regs, "(const 0 5) (halt 0)"})
		checkLink(t, wanting, with, append(cloned(wanting), with[1]))
		made, _ := impl.ProgramLink(wanting, with)
		if impl.CheckProgram(made) != checks || impl.CheckProgram(wanting) {
			t.Errorf("with %q what is linked checks: %v", regs, impl.CheckProgram(made))
		}
	}
}

func TestLinkedProgramsOfManyBlocks(t *testing.T) {
	labelled := func(letter string, n int) []impl.Block {
		program := numbered(n)
		for k := range program[1:] {
			program[k+1].Label = letter + strconv.Itoa(k)
		}
		return program
	}
	for _, n := range []int{1, 2, 3, 20, 21, 22, 38, 39, 40} {
		for _, m := range []int{1, 2, 3, 19, 20, 21, 22, 38, 39, 40} {
			a, b := labelled("a", n), labelled("b", m)
			var want []impl.Block
			if n+m-1 <= impl.BlocksMax {
				want = append(cloned(a), b[1:]...)
			}
			checkLink(t, a, b, want)
		}
	}
}

func TestLinkedListsThatAreNoPrograms(t *testing.T) {
	good := halts("main", "a")
	lists := [][]impl.Block{
		nil, {}, {{}}, numbered(41), halts("b"), halts("b", "main"), halts("main", "main"), halts("main", "b", "b"), halts("main", "B"), {{Label: "main"}}, append(halts("main"), impl.Block{Label: "b"}), append(halts("main"), impl.Block{Label: "b", Regs: []string{"v"}, Code: []string{"(halt 0)"}}),
		{{Label: "main", Regs: []string{"i"}, Code: []string{"(halt 0)"}}}, {{Label: "main", Code: []string{"(const 0 1)"}}}, {{Label: "main", Regs: []string{"i"}, Code: []string{"(halt 0)"}}, {Label: "x", Code: []string{"(halt 0)"}}}, {{Label: "other", Code: []string{"(halt 0)"}}, {Label: "x", Code: []string{"(halt 0)"}}},
	}
	for _, list := range sampleLists() {
		if !isProgram(list) {
			lists = append(lists, list)
		}
	}
	for _, list := range lists {
		checkLink(t, good, list, nil)
		checkLink(t, list, good, nil)
		checkLink(t, list, list, nil)
		checkLink(t, list, nil, nil)
		if size := impl.ProgramSize(list); size != -1 {
			t.Errorf("ProgramSize of no program is %d", size)
		}
	}
}

// P91: programs of samples with each other, and the parts of one.
func TestLinkedSamplePrograms(t *testing.T) {
	programs := sampleLoadings()
	linked, wanting := 0, 0
	for k, program := range programs {
		other := programs[(k*7+13)%len(programs)]
		want := linkedOf(program, other)
		if want != nil && len(other) > 1 {
			linked++
		}
		checkLink(t, program, other, want)
		n := 1 + k%len(program)
		first, second := program[:n], append(halts("main"), program[n:]...)
		if len(wantedIn(first)) > 0 {
			wanting++
		}
		checkLink(t, first, second, program)
	}
	if linked < 300 || wanting < 300 {
		t.Errorf("%d of the samples are linked with others, and %d parts want labels", linked, wanting)
	}
}

func TestSizesOfPrograms(t *testing.T) {
	cases := []struct {
		program       []impl.Block
		size          int
		trimmed, thin int
	}{
		{nil, -1, -1, -1}, {[]impl.Block{}, -1, -1, -1}, {[]impl.Block{{}}, -1, -1, -1}, {numbered(41), -1, -1, -1}, {halts("main", "b", "b"), -1, -1, -1}, {halts("b"), -1, -1, -1},
		{numbered(1), 1, 1, -1}, {numbered(2), 2, 1, -1}, {numbered(40), 40, 1, -1}, {halts("main"), 2, 2, 2}, {halts("main", "b", "d"), 6, 2, 6},
		{coded([3]string{"main", "", "(const 0 1) (const 1 2) (lab 2 b) (zero 0 d) (halt 0)"}, [3]string{"b", "i", "(mov 1 0) (mov 2 1) (halt 0)"}, [3]string{"d", "i", "(halt 0)"}, [3]string{"x", "i", "(new 1) (halt 0)"}), 11, 9, 6},
		{coded([3]string{"main", "", "(lab 2 none) (halt 2)"}, [3]string{"b", "i", "(halt 0)"}), 3, 2, -1},
	}
	for _, c := range cases {
		trimmed, _ := impl.ProgramTrim(c.program)
		thin, _ := impl.ProgramThin(c.program)
		if size, less, least := impl.ProgramSize(c.program), impl.ProgramSize(trimmed), impl.ProgramSize(thin); size != c.size || less != c.trimmed || least != c.thin {
			t.Errorf("the sizes of\n%s\nare %d, %d and %d, not %d, %d and %d", listed(c.program), size, less, least, c.size, c.trimmed, c.thin)
		}
	}
	program := numbered(impl.BlocksMax)
	for k := range program {
		program[k].Code = append(slices.Repeat([]string{"(const 0 1)"}, impl.CodeMax-1), "(halt 0)")
	}
	if size := impl.ProgramSize(program); size != 3200 {
		t.Errorf("the size of the largest program is %d", size)
	}
	program[39].Code = append(program[39].Code, "(halt 0)")
	if size := impl.ProgramSize(program); size != -1 {
		t.Errorf("the size of a program that is too large is %d", size)
	}
}

// P93.
func TestSizesOfSamplePrograms(t *testing.T) {
	for _, program := range append(sampleLoadings(), sampleLists()...) {
		size := impl.ProgramSize(program)
		if size != sizeOfProgram(program) {
			t.Errorf("ProgramSize of\n%.1000s\nis %d", listed(program), size)
		}
		trimmed, ok := impl.ProgramTrim(program)
		if less := impl.ProgramSize(trimmed); ok != (size >= 0) || size >= 0 && (size < len(program) || size < less || less < 1) {
			t.Errorf("ProgramSize of\n%.1000s\nis %d, and %d trimmed", listed(program), size, less)
		}
	}
	for k, text := range sampleCompilings() {
		program, ok := impl.Compile(text)
		if size := impl.ProgramSize(program); k%4 == 0 && (size != impl.CompileSize(text) || ok != (size > 0)) {
			t.Errorf("ProgramSize of the program of %q is %d", text, size)
		}
	}
}
