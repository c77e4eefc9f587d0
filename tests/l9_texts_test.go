package tests

import (
	"math/rand"
	"slices"
	"strconv"
	"strings"
	"testing"

	"loop.example/typedassembly/impl"
)

// checkFromText checks the program with a text, or that there is none, and whether it is loaded (P83 and P84).
func checkFromText(t *testing.T, text string, want []impl.Block) {
	t.Helper()
	made, ok := impl.ProgramFrom(text)
	checkMade(t, "ProgramFrom "+text, made, ok, want)
	if !isChecked(want) {
		want = nil
	}
	loaded, fine := impl.ProgramLoad(text)
	checkMade(t, "ProgramLoad "+text, loaded, fine, want)
	if again, is := impl.ProgramText(made); ok && (!is || again != text || !impl.ProgramValid(made)) {
		t.Errorf("%q is read as what has the text %q", cut(text), cut(again))
	}
	if fine && (!impl.CheckProgram(loaded) || impl.RunStuck(loaded, 300)) {
		t.Errorf("of %q a program is loaded that does not check", cut(text))
	}
}

// checkProgramText checks the text of a program, or that there is none if it is "", and what is read back from it (P82).
func checkProgramText(t *testing.T, program []impl.Block, want string) {
	t.Helper()
	text, ok := impl.ProgramText(program)
	if ok != (want != "") || text != want {
		t.Errorf("ProgramText of\n%.1000s\nis %q, %v, not %q", listed(program), cut(text), ok, cut(want))
	}
	if ok {
		checkFromText(t, text, program)
	}
}

func TestTextsOfSomePrograms(t *testing.T) {
	cases := []struct {
		text    string
		program []impl.Block
		checks  bool
	}{
		{"(program (block main (regs) (code (halt 0))))", []impl.Block{{Label: "main", Regs: nil, Code: []string{"(halt 0)"}}}, false},
		{"(program (block main (regs) (code (const 0 5) (halt 0))))", []impl.Block{{Label: "main", Regs: []string{}, Code: []string{"(const 0 5)", "(halt 0)"}}}, true},
		{"(program (block main (regs) (code (const 39 -999) (new 0) (new 1 39 0) (halt 1))))", []impl.Block{{Label: "main", Code: []string{"(const 39 -999)", "(new 0)", "(new 1 39 0)", "(halt 1)"}}}, true},
		{"(program (block main (regs) (code (lab 0 main) (jump 0))))", []impl.Block{{Label: "main", Code: []string{"(lab 0 main)", "(jump 0)"}}}, true},
		{"(program (block main (regs) (code (const 0 0) (zero 0 b) (halt 0))) (block b (regs i) (code (halt 0))))",
			[]impl.Block{{Label: "main", Code: []string{"(const 0 0)", "(zero 0 b)", "(halt 0)"}}, {Label: "b", Regs: []string{"i"}, Code: []string{"(halt 0)"}}}, true},
		{"(program (block main (regs) (code (const 0 0) (zero 0 b) (halt 0))) (block b (regs (t)) (code (halt 0))))",
			[]impl.Block{{Label: "main", Code: []string{"(const 0 0)", "(zero 0 b)", "(halt 0)"}}, {Label: "b", Regs: []string{"(t)"}, Code: []string{"(halt 0)"}}}, false},
		{"(program (block main (regs) (code (lab 0 none) (halt 0))))", []impl.Block{{Label: "main", Code: []string{"(lab 0 none)", "(halt 0)"}}}, false},
		{"(program (block main (regs) (code (const 0 1) (halt 0))) (block b (regs) (code (halt 0))))",
			[]impl.Block{{Label: "main", Code: []string{"(const 0 1)", "(halt 0)"}}, {Label: "b", Code: []string{"(halt 0)"}}}, false},
		// Labels that are heads and types too.
		{"(program (block main (regs) (code (lab 0 regs) (lab 1 program) (halt 0))) (block program (regs i (t i (e (t v i))) (c) (e (c v))) (code (lab 4 code) (jump 4))) (block block (regs) (code (new 0) (halt 0))) (block regs (regs (t) (t)) (code (halt 1))) (block code (regs i) (code (pack 0 0 (e (e v)) i) (halt 0))))",
			[]impl.Block{
				{Label: "main", Code: []string{"(lab 0 regs)", "(lab 1 program)", "(halt 0)"}}, {Label: "program", Regs: []string{"i", "(t i (e (t v i)))", "(c)", "(e (c v))"}, Code: []string{"(lab 4 code)", "(jump 4)"}},
				{Label: "block", Code: []string{"(new 0)", "(halt 0)"}}, {Label: "regs", Regs: []string{"(t)", "(t)"}, Code: []string{"(halt 1)"}}, {Label: "code", Regs: []string{"i"}, Code: []string{"(pack 0 0 (e (e v)) i)", "(halt 0)"}},
			}, false},
		{"(program (block main (regs) (code (const 0 1) (pack 1 0 (e v) i) (lab 2 v) (jump 2))) (block v (regs i (e v)) (code (open 1 1) (new 0 0 1 0) (get 0 0 2) (mov 1 0) (add 0 1 0) (sub 0 1 0) (mul 0 1 0) (zero 0 i) (halt 0))) (block i (regs i i) (code (halt 1))))",
			[]impl.Block{
				{Label: "main", Code: []string{"(const 0 1)", "(pack 1 0 (e v) i)", "(lab 2 v)", "(jump 2)"}},
				{Label: "v", Regs: []string{"i", "(e v)"}, Code: []string{"(open 1 1)", "(new 0 0 1 0)", "(get 0 0 2)", "(mov 1 0)", "(add 0 1 0)", "(sub 0 1 0)", "(mul 0 1 0)", "(zero 0 i)", "(halt 0)"}}, {Label: "i", Regs: []string{"i", "i"}, Code: []string{"(halt 1)"}},
			}, true},
		{"(program (block main (regs) (code (const 0 1) (halt 0))) (block b (regs" + strings.Repeat(" i", 40) + ") (code (halt 39))))",
			[]impl.Block{{Label: "main", Code: []string{"(const 0 1)", "(halt 0)"}}, {Label: "b", Regs: slices.Repeat([]string{"i"}, 40), Code: []string{"(halt 39)"}}}, true},
	}
	for _, c := range cases {
		checkProgramText(t, c.program, c.text)
		if _, ok := impl.ProgramLoad(c.text); ok != c.checks {
			t.Errorf("ProgramLoad(%q) is %v", c.text, ok)
		}
	}
}

// noProgramTexts are nearly texts of programs.
func noProgramTexts() []string {
	return []string{
		"", "()", " ", "(", ")", "program", "block", "main", "(program)", "(program )", "(block)", "(program program)", "(program main)", "(program ())", "(program (block))", "(program block main (regs) (code (halt 0)))", "((program))",
		// Another head, or none.
		"(block main (regs) (code (halt 0)))", "(prog (block main (regs) (code (halt 0))))", "(programs (block main (regs) (code (halt 0))))", "(Program (block main (regs) (code (halt 0))))", "(block (block main (regs) (code (halt 0))))",
		"((block main (regs) (code (halt 0))))", "((program) (block main (regs) (code (halt 0))))", "((program (block main (regs) (code (halt 0)))))", "(program (program (block main (regs) (code (halt 0)))))", "(0 (block main (regs) (code (halt 0))))",
		"(program ((block main (regs) (code (halt 0)))))", "(program (blocks main (regs) (code (halt 0))))", "(program (main (regs) (code (halt 0))))", "(program ((block) main (regs) (code (halt 0))))", "(program (program main (regs) (code (halt 0))))",
		"(program (block main (reg) (code (halt 0))))", "(program (block main (t) (code (halt 0))))", "(program (block main (block) (code (halt 0))))", "(program (block main ((regs)) (code (halt 0))))", "(program (block main (i) (code (halt 0))))",
		"(program (block main (regs) ((halt 0))))", "(program (block main (regs) (codes (halt 0))))", "(program (block main (regs) ((code) (halt 0))))", "(program (block main (regs) ((code (halt 0)))))", "(program (block main (regs) (regs (halt 0))))",
		// Parts too many and too few.
		"(program (block main (code (halt 0))))", "(program (block main (regs)))", "(program (block (regs) (code (halt 0))))", "(program (block main))", "(program (block main (regs) (code (halt 0)) (code (halt 0))))", "(program (block main (regs) (code (halt 0)) i))",
		"(program (block main main (regs) (code (halt 0))))", "(program (block main (regs) (regs) (code (halt 0))))", "(program (block main i (regs) (code (halt 0))))", "(program main (block main (regs) (code (halt 0))))", "(program (block main (regs) (code (halt 0))) b)",
		"(program (block main (regs) (code (halt 0))) (block))", "(program (block main (regs) (code (halt 0))) (regs))", "(program (block main (regs) (code (halt 0)) block b (regs) (code (halt 0))))", "(program (block main (regs) (code (halt 0))) ((block b (regs) (code (halt 0)))))",
		"(program (block main (regs) (code (halt 0))) (block b (regs)))", "(program (block main (regs) (code (halt 0))) (block b (code (halt 0))))", "(program (block main (regs) (code (halt 0))) (block b (regs i) (code (halt 0)) i))",
		// In another order.
		"(program (block main (code (halt 0)) (regs)))", "(program (block (regs) main (code (halt 0))))", "(program (block (regs) (code (halt 0)) main))", "(program (main block (regs) (code (halt 0))))", "((block main (regs) (code (halt 0))) program)",
		"(program (block main (regs) (code (halt 0))) (block b (code (halt 0)) (regs)))", "(program (block b (regs) (code (halt 0))) (block main (regs) (code (halt 0))))",
		// A list for an atom, and an atom for a list.
		"(program (block (main) (regs) (code (halt 0))))", "(program (block main (regs) (code (halt 0))) (block (b) (regs) (code (halt 0))))", "(program (block main (regs) (code (halt 0))) (block (regs) (regs) (code (halt 0))))",
		"(program (block main regs (code (halt 0))))", "(program (block main regs code))", "(program (block main (regs) code))", "(program (block main (regs) (code halt 0)))", "(program (block main (regs) halt))", "(program (block main i (code (halt 0))))",
		"(program (block main (regs) (code (halt 0))) b (regs) (code (halt 0)))", "(program (block main (regs) (code (halt 0) halt)))", "(program (block main (regs) (code 0 (halt 0))))", "(program (block main (regs) (code ((halt 0)))))", "(program (block main (regs) (code ((halt 0) (halt 0)))))",
		// Spaces, parentheses and other bytes.
		" (program (block main (regs) (code (halt 0))))", "(program (block main (regs) (code (halt 0)))) ", "(program  (block main (regs) (code (halt 0))))", "( program (block main (regs) (code (halt 0))))", "(program (block  main (regs) (code (halt 0))))",
		"(program (block main  (regs) (code (halt 0))))", "(program (block main (regs ) (code (halt 0))))", "(program (block main (regs)  (code (halt 0))))", "(program (block main (regs) (code  (halt 0))))", "(program (block main (regs) (code (halt  0))))",
		"(program (block main (regs) (code (halt 0) )))", "(program (block main (regs) (code (halt 0)) ))", "(program (block main (regs) (code (halt 0))) )", "(program(block main (regs) (code (halt 0))))", "(program (block main(regs) (code (halt 0))))", "(program (block main (regs)(code (halt 0))))",
		"(program (block main (regs) (code(halt 0))))", "(program (block main (regs) (code (const 0 1)(halt 0))))", "(program (block main (regs) (code (halt 0)))", "(program (block main (regs) (code (halt 0)))))", "program (block main (regs) (code (halt 0)))",
		"(program (block main () (code (halt 0))))", "(program (block main (regs) ()))", "(program (block main (regs) (code ())))", "(program (block main (regs ()) (code (halt 0))))", "(program (block () (regs) (code (halt 0))))", "(program (block main (regs) (code (halt 0))) ())",
		"(program (block main (regs) (code (halt 0))))\n", "(program (block main (regs) (code (halt\t0))))", "(program (block main (regs) (code (halt 0))))\x00", "(program (block main (regs) (code (HALT 0))))", "(program (block Main (regs) (code (halt 0))))", "[program [block main [regs] [code [halt 0]]]]",
		"(program (block main (regs) (code (halt 0))))(program (block main (regs) (code (halt 0))))", "(program (block main (regs) (code (halt 0)))) (block b (regs) (code (halt 0)))",
		// Blocks that are no program.
		"(program (block b (regs) (code (halt 0))))", "(program (block main (regs i) (code (halt 0))))", "(program (block main (regs) (code (halt 0))) (block main (regs) (code (halt 0))))", "(program (block main (regs) (code (halt 0))) (block b (regs) (code (halt 0))) (block b (regs i) (code (halt 0))))",
		"(program (block main (regs) (code)))", "(program (block main (regs) (code (const 0 1))))", "(program (block main (regs) (code (halt 0) (halt 0))))", "(program (block main (regs) (code (jump 0) (const 0 1))))", "(program (block main (regs) (code (zero 0 main))))",
		"(program (block main (regs) (code (halt 40))))", "(program (block main (regs) (code (halt -1))))", "(program (block main (regs) (code (halt 00))))", "(program (block main (regs) (code (halt))))", "(program (block main (regs) (code (halt 0 0))))", "(program (block main (regs) (code (stop 0))))",
		"(program (block main (regs) (code (const 0 1000) (halt 0))))", "(program (block main (regs) (code (get 0 0 -1) (halt 0))))", "(program (block main (regs) (code (pack 0 0 i i) (halt 0))))", "(program (block main (regs) (code (lab 0 0) (halt 0))))", "(program (block main (regs) (code (zero main 0) (halt 0))))",
		"(program (block main (regs) (code (halt 0))) (block b (regs v) (code (halt 0))))", "(program (block main (regs) (code (halt 0))) (block b (regs i a0) (code (halt 0))))", "(program (block main (regs) (code (halt 0))) (block b (regs (e)) (code (halt 0))))", "(program (block main (regs) (code (halt 0))) (block b (regs regs) (code (halt 0))))",
		"(program (block main (regs) (code (halt 0))) (block 0 (regs) (code (halt 0))))", "(program (block main (regs) (code (halt 0))) (block 9b (regs) (code (halt 0))))", "(program (block main (regs) (code (halt 0))) (block -b (regs) (code (halt 0))))", "(program (block main (regs) (code (halt 0))) (block + (regs) (code (halt 0))))",
		"(program (block main (regs) (code (halt 0))) (block b (regs" + strings.Repeat(" i", 41) + ") (code (halt 0))))", "(program (block main (regs) (code" + strings.Repeat(" (const 0 1)", 80) + " (halt 0))))", "(program (block main (regs) (code" + strings.Repeat(" (halt 0)", 80) + ")))",
	}
}

func TestTextsThatAreNoPrograms(t *testing.T) {
	for _, text := range slices.Concat(noProgramTexts(), fixedForms(), fixedFaults()) {
		if programOfText(text) != nil {
			t.Fatalf("the oracle reads %q", cut(text))
		}
		checkFromText(t, text, nil)
	}
	for _, text := range sampleCompilings()[:300] {
		checkFromText(t, text, nil)
	}
}

func TestTextsOfListsThatAreNoPrograms(t *testing.T) {
	lists := [][]impl.Block{nil, {}, {{}}, {{}, {}}, numbered(41), numbered(3)[1:], append(numbered(2), numbered(2)...), {{Label: "main", Regs: []string{"i"}, Code: []string{"(halt 0)"}}}, {{Label: "main"}}, {{Label: "main", Code: []string{"(const 0 1)"}}}}
	// What would be read as something else.
	lists = append(lists, []impl.Block{{Label: "main", Code: []string{"(const 0 1) (halt 0)"}}}, []impl.Block{{Label: "main (regs) (code (halt 0))) (block b", Code: []string{"(halt 0)"}}}, append(numbered(1), impl.Block{Label: "b", Regs: []string{"i i"}, Code: []string{"(halt 0)"}}), append(numbered(1), impl.Block{Label: "b", Regs: []string{""}, Code: []string{"(halt 0)"}}))
	for _, list := range sampleLists() {
		if !isProgram(list) {
			lists = append(lists, list)
		}
	}
	for _, list := range lists {
		checkProgramText(t, list, "")
	}
}

// longLabelled is a program whose text has just as many bytes.
func longLabelled(bytes int) []impl.Block {
	program := coded([3]string{"main", "", "(const 0 1) (halt 0)"}, [3]string{"b", "i", "(halt 0)"})
	program[1].Label = strings.Repeat("b", 1+bytes-len(wholeText(program)))
	return program
}

func TestTextsAtTheGreatestBytes(t *testing.T) {
	wide := func(bytes int) []impl.Block {
		program := numbered(2)
		program[1].Regs = []string{longTarget(bytes - len(wholeText(program)) + 1)}
		return program
	}
	tall := func(code int) []impl.Block {
		program := numbered(2)
		program[0].Code = []string{"(new 0" + strings.Repeat(" 0", code) + ")", "(halt 0)"}
		return program
	}
	for _, bytes := range []int{impl.FormMax - 1, impl.FormMax} {
		checkProgramText(t, longLabelled(bytes), wholeText(longLabelled(bytes)))
		if text, _ := impl.ProgramText(longLabelled(bytes)); len(text) != bytes {
			t.Errorf("the text has %d bytes", len(text))
		}
	}
	around := 0
	for bytes := impl.FormMax - 3; bytes < impl.FormMax+4; bytes++ {
		for _, program := range [][]impl.Block{longLabelled(bytes), wide(bytes), tall(bytes/2 - 50)} {
			want, whole := textOfProgram(program), wholeText(program)
			if len(whole) == impl.FormMax || len(whole) == impl.FormMax+1 {
				around++
			}
			if !isProgram(program) || (want == "") != (len(whole) > impl.FormMax) {
				t.Fatalf("the oracle takes %d bytes for no text", len(whole))
			}
			checkProgramText(t, program, want)
			checkFromText(t, whole, programOfText(whole))
		}
	}
	if around < 3 {
		t.Errorf("just %d of the texts are at the limit", around)
	}
	// Programs that are far too large for a text.
	large := numbered(impl.BlocksMax)
	for k := range large {
		large[k].Code = append(slices.Repeat([]string{"(lab 0 " + strings.Repeat("a", impl.FormMax-8) + ")"}, impl.CodeMax-1), "(halt 0)")
	}
	checkProgramText(t, large, "")
	checkFromText(t, strings.Repeat("(program ", 1<<18), nil)
	checkFromText(t, wholeText(large[:3]), nil)
}

func TestTextsAtTheGreatestDepth(t *testing.T) {
	for depth := 55; depth <= impl.DepthMax; depth++ {
		kind := inTuples(depth, "i")
		regs := coded([3]string{"main", "", "(const 0 1) (halt 0)"}, [3]string{"b", "i", "(halt 0)"})
		regs[1].Regs = []string{"i", kind}
		want := ""
		if depth+3 <= impl.DepthMax {
			want = wholeText(regs)
		}
		checkProgramText(t, regs, want)
		checkFromText(t, wholeText(regs), programOfText(wholeText(regs)))
		// In an instruction each type is one deeper.
		for _, pack := range []string{"(pack 0 0 (e " + inTuples(depth-2, "i") + ") i)", "(pack 0 0 (e i) " + inTuples(depth-1, "i") + ")"} {
			code := coded([3]string{"main", "", "(const 0 1) " + pack + " (halt 0)"})
			want = ""
			if depth+3 <= impl.DepthMax {
				want = wholeText(code)
			}
			if depthOf(pack) != depth || !isProgram(code) {
				t.Fatalf("%q has the depth %d", pack, depthOf(pack))
			}
			checkProgramText(t, code, want)
			checkFromText(t, wholeText(code), programOfText(wholeText(code)))
		}
	}
}

func TestTextsAtTheLimitsOfPrograms(t *testing.T) {
	for _, n := range []int{1, 2, impl.BlocksMax - 1, impl.BlocksMax} {
		checkProgramText(t, numbered(n), wholeText(numbered(n)))
	}
	for _, n := range []int{0, impl.BlocksMax + 1, impl.BlocksMax + 2, 200} {
		program := numbered(n)
		if n == 0 {
			program = nil
		}
		checkProgramText(t, program, "")
		checkFromText(t, wholeText(program), nil)
	}
	for n := impl.CodeMax - 1; n <= impl.CodeMax+1; n++ {
		program := []impl.Block{{Label: "main", Code: append(slices.Repeat([]string{"(const 0 1)"}, n-1), "(halt 0)")}}
		checkProgramText(t, program, textOfProgram(program))
		checkFromText(t, wholeText(program), programOfText(wholeText(program)))
		if (programOfText(wholeText(program)) != nil) != (n <= impl.CodeMax) {
			t.Errorf("the oracle reads %d instructions", n)
		}
	}
	for n := range impl.RegsMax + 3 {
		program := numbered(2)
		program[1].Regs = slices.Repeat([]string{"(t i)"}, n)
		checkProgramText(t, program, textOfProgram(program))
		checkFromText(t, wholeText(program), programOfText(wholeText(program)))
	}
}

// P82, P83 and P84.
func TestTextsOfSamplePrograms(t *testing.T) {
	loaded := 0
	for _, program := range sampleLoadings() {
		checkProgramText(t, program, textOfProgram(program))
		text, ok := impl.ProgramText(program)
		_, fine := impl.ProgramLoad(text)
		if ok && fine != impl.CheckProgram(program) {
			t.Errorf("ProgramLoad(%q) is %v", cut(text), fine)
		}
		if fine {
			loaded++
		}
	}
	if loaded < 700 {
		t.Errorf("just %d of the samples are loaded", loaded)
	}
}

// P83, and what is nearly a text.
func TestSpoiledTexts(t *testing.T) {
	r := rand.New(rand.NewSource(51))
	read := 0
	for k, program := range sampleLoadings() {
		text := textOfProgram(program)
		if text == "" || k%2 == 0 || len(text) > 3000 {
			continue
		}
		for _, other := range []string{spoiled(r, text), swappedAtoms(r, text), swappedParts(r, text)} {
			want := programOfText(other)
			if want != nil {
				read++
			}
			checkFromText(t, other, want)
		}
	}
	if read < 200 {
		t.Errorf("just %d of the spoiled texts are read", read)
	}
	text := "(program (block main (regs) (code (lab 2 b1) (halt 2))) (block b1 (regs i) (code (halt 0))))"
	for at := range len(text) {
		for _, b := range []string{"", " ", "(", ")", "b", "0", "-", "A", "\x00"} {
			for _, other := range []string{text[:at] + b + text[at:], text[:at] + b + text[at+1:]} {
				checkFromText(t, other, programOfText(other))
			}
		}
	}
}

func TestLabelsInTexts(t *testing.T) {
	for _, label := range []string{"b", "b0", "v", "i", "a0", "halt", "mainly", "main0", "regs"} {
		text := "(program (block main (regs) (code (lab 0 " + label + ") (halt 0))) (block " + label + " (regs) (code (new 0) (halt 0))))"
		checkFromText(t, text, []impl.Block{{Label: "main", Code: []string{"(lab 0 " + label + ")", "(halt 0)"}}, {Label: label, Code: []string{"(new 0)", "(halt 0)"}}})
	}
	for _, label := range []string{"", "0", "0b", "-b", "b-", "b+", "*", ">", "B", "b b", "(b)", "()", "main", "b.", "é", strings.Repeat("b", impl.FormMax)} {
		checkFromText(t, "(program (block main (regs) (code (const 0 1) (halt 0))) (block "+label+" (regs) (code (new 0) (halt 0))))", nil)
	}
	for n := range 5 {
		checkFromText(t, "(program (block main (regs) (code (const 0 "+strconv.Itoa(n)+") (halt 0))))", []impl.Block{{Label: "main", Code: []string{"(const 0 " + strconv.Itoa(n) + ")", "(halt 0)"}}})
	}
}
