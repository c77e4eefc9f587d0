package tests

import (
	"math/rand"
	"slices"
	"strconv"
	"strings"
	"testing"

	"loop.example/typedassembly/impl"
)

func TestLimitsOfPrograms(t *testing.T) {
	if impl.RegsMax != 40 || impl.BlocksMax != 40 || impl.CodeMax != 80 {
		t.Errorf("the limits are %d, %d and %d", impl.RegsMax, impl.BlocksMax, impl.CodeMax)
	}
}

// fixedInstrs are instructions that are no last ones.
func fixedInstrs() []string {
	return []string{
		"(const 0 5)", "(const 39 -999)", "(const 10 999)", "(const 1 0)", "(const 1 -1)", "(mov 0 0)", "(mov 39 38)", "(add 0 1 2)", "(add 0 0 0)", "(sub 39 39 39)", "(mul 10 20 30)",
		"(new 0)", "(new 39)", "(new 0 0)", "(new 0 39)", "(new 1 2 3)", "(new 5" + strings.Repeat(" 5", 100) + ")", "(new 0" + strings.Repeat(" 39", 3997) + " 0)",
		"(get 0 1 0)", "(get 39 39 999)", "(get 0 0 40)", "(get 1 2 100)",
		"(lab 0 main)", "(lab 39 a)", "(lab 1 b0)", "(lab 1 v)", "(lab 1 i)", "(lab 1 halt)", "(lab 1 z9z9)", "(lab 1 a0)", "(lab 1 b00)", "(lab 1 " + strings.Repeat("a", 100) + ")", "(lab 0 " + strings.Repeat("z", impl.FormMax-8) + ")",
		"(pack 0 1 (e v) i)", "(pack 39 39 (e i) (t))", "(pack 0 0 (e (t v (e v))) (e (t v i)))", "(pack 1 2 (e (e v)) (c (t) i))", "(pack 0 0 (e v) " + longTarget(impl.FormMax-17) + ")",
		"(pack 0 0 (e " + longTarget(impl.FormMax-19) + ") i)", "(pack 0 0 (e v) " + inTuples(impl.DepthMax-1, "i") + ")", "(pack 0 0 (e " + inTuples(impl.DepthMax-2, "v") + ") i)",
		"(open 0 1)", "(open 39 39)", "(zero 0 main)", "(zero 39 z)", "(zero 1 a0b1)",
	}
}

func fixedLasts() []string {
	return []string{"(jump 0)", "(jump 39)", "(jump 10)", "(halt 0)", "(halt 39)", "(halt 9)"}
}

// withReplaced are texts that have each of some others in the place of #.
func withReplaced(text string, others ...string) []string {
	var texts []string
	for _, other := range others {
		texts = append(texts, strings.ReplaceAll(text, "#", other))
	}
	return texts
}

// noInstrs are texts that are no instructions.
func noInstrs() []string {
	texts := []string{
		"const", "halt", "0", "i", "(const)", "(mov)", "(add)", "(new)", "(get)", "(lab)", "(pack)", "(open)", "(zero)", "(jump)", "(halt)", "(x)", "(x 0)", "(0)", "(0 1)", "(i)", "(t)", "(e v)", "(((halt)) 0)", "((halt) 0)", "((halt 0))", "(halt (0))",
		"(const 0)", "(const 0 1 2)", "(mov 0)", "(mov 0 1 2)", "(add 0)", "(add 0 1)", "(add 0 1 2 3)", "(sub 0 1)", "(sub 0 1 2 3)", "(mul 0 1)", "(mul 0 1 2 3)", "(get 0)", "(get 0 1)", "(get 0 1 2 3)", "(lab 0)", "(lab 0 a b)",
		"(pack 0)", "(pack 0 0)", "(pack 0 0 (e v))", "(pack 0 0 (e v) i i)", "(pack 0 (e v) i)", "(pack 0 0 i (e v))", "(open 0)", "(open 0 1 2)", "(zero 0)", "(zero 0 a b)", "(zero a 0)", "(lab a 0)", "(jump 0 1)", "(halt 0 1)", "(jump 0 a)", "(halt 0 0)",
		"(div 0 1 2)", "(+ 0 1 2)", "(move 0 1)", "(Halt 0)", "(halts 0)", "(hal 0)", "(jmp 0)", "(load 0 1)", "(label 0 a)", "(addd 0 1 2)", "(newt 0)",
		"(new a)", "(new 0 a)", "(new 0 1 40)", "(new 40 1)", "(new 0 1 -1)", "(new 0 (1))", "(new 0 ())", "(new (0))", "(new 0 1 2 01)",
		"(halt 0", "halt 0", "halt 0)", "(halt  0)", "( halt 0)", "(halt 0 )", "(halt 0) ", " (halt 0)", "(halt 0)(halt 0)", "(halt 0) (halt 0)", "(halt\t0)", "(halt 0)\n", "(halt 0\x00)", "(halt(0))", "(halt0)",
		"(new 0" + strings.Repeat(" 39", 3998) + ")", "(new 0" + strings.Repeat(" 0", 6000) + ")", "(lab 0 " + strings.Repeat("z", impl.FormMax-7) + ")",
		"(pack 0 0 (e v) " + longTarget(impl.FormMax-15) + ")", "(pack 0 0 (e v) " + inTuples(impl.DepthMax, "i") + ")", "(pack 0 0 (e " + inTuples(impl.DepthMax-1, "v") + ") i)",
	}
	for _, text := range []string{"(const # 1)", "(mov # 0)", "(mov 0 #)", "(add # 1 2)", "(add 0 # 2)", "(sub 0 1 #)", "(mul # # #)", "(new #)", "(new 0 #)", "(new 0 1 # 2)", "(get # 0 0)", "(get 0 # 0)", "(lab # a)", "(pack # 0 (e v) i)", "(pack 0 # (e v) i)", "(open # 0)", "(open 0 #)", "(zero # a)", "(jump #)", "(halt #)"} {
		texts = append(texts, withReplaced(text, "40", "41", "100", "999", "1000", "-1", "-0", "00", "01", "039", "+1", "a", "i", "(0)", "(t)", "0x1", "", "18446744073709551616")...)
	}
	texts = append(texts, withReplaced("(const 0 #)", "1000", "-1000", "-0", "00", "01", "-01", "0999", "+1", "-", "a", "a0", "1a", "(1)", "", "99999999999999999999")...)
	texts = append(texts, withReplaced("(get 0 0 #)", "1000", "-1", "-999", "-0", "00", "01", "+1", "a", "a0", "(1)", "", "99999999999999999999")...)
	for _, text := range []string{"(lab 0 #)", "(zero 0 #)"} {
		texts = append(texts, withReplaced(text, "0", "0a", "9b", "-a", "+a", "*", ">", "a-b", "a+", "a*0", "a>b", "->", "A", "aB", "a_b", "(a)", "", "é", "a.b", "-1")...)
	}
	for _, text := range append(withReplaced("(e #)", "", "x", "a0", "a", "i i", "v v", "(v)", "(t a0)", "(e)"), "i", "v", "a0", "e", "(t)", "(t v)", "(c (e v))", "(t (e v))", "(e)", "(t e)", "((e v))", "") {
		texts = append(texts, "(pack 0 0 "+text+" i)")
	}
	for _, text := range []string{"v", "a0", "a12", "a", "x", "0", "(t v)", "(t a0)", "(e a0)", "(e (t v a1))", "(e)", "(i)", "(t x)", ""} {
		texts = append(texts, "(pack 0 0 (e v) "+text+")")
	}
	return append(texts, fixedFaults()...)
}

// checkInstr checks what is told of a text: whether it is an instruction, and a last one.
func checkInstr(t *testing.T, text string, valid bool, last bool) {
	t.Helper()
	if impl.InstrValid(text) != valid || impl.InstrLast(text) != last {
		t.Errorf("%q is an instruction: %v, a last one: %v", cut(text), impl.InstrValid(text), impl.InstrLast(text))
	}
}

func TestInstrsOfFixedTexts(t *testing.T) {
	for _, text := range fixedInstrs() {
		checkInstr(t, text, true, false)
	}
	for _, text := range fixedLasts() {
		checkInstr(t, text, true, true)
	}
	for _, text := range noInstrs() {
		checkInstr(t, text, false, false)
	}
}

func TestInstrsWithEachNumber(t *testing.T) {
	for n := -1100; n <= 1100; n++ {
		number := strconv.Itoa(n)
		isReg := 0 <= n && n < impl.RegsMax
		for _, text := range []string{"(mov # 0)", "(mul 0 1 #)", "(new 0 1 # 2)", "(pack 0 # (e v) i)", "(zero # a)", "(lab # a)"} {
			checkInstr(t, strings.Replace(text, "#", number, 1), isReg, false)
		}
		checkInstr(t, "(halt "+number+")", isReg, isReg)
		checkInstr(t, "(jump "+number+")", isReg, isReg)
		checkInstr(t, "(const 0 "+number+")", -999 <= n && n <= 999, false)
		checkInstr(t, "(get 0 0 "+number+")", 0 <= n && n <= 999, false)
	}
}

func TestLabelsOfEachByte(t *testing.T) {
	for b := range 256 {
		s := string([]byte{byte(b)})
		letter, digit := 'a' <= b && b <= 'z', '0' <= b && b <= '9'
		checkInstr(t, "(lab 0 "+s+")", letter, false)
		checkInstr(t, "(zero 0 "+s+"a)", letter, false)
		checkInstr(t, "(lab 0 a"+s+")", letter || digit, false)
		checkInstr(t, "(zero 0 b"+s+"b)", letter || digit, false)
		for _, text := range []string{s, "a" + s, "a" + s + "0"} {
			want := letter || digit && text != s
			if got := impl.BlockValid(impl.Block{Label: text, Code: []string{"(halt 0)"}}); got != want {
				t.Errorf("a block with the label %q is valid: %v", text, got)
			}
		}
	}
}

// sampleInstrs are instructions and texts that are nearly some.
func sampleInstrs() []string {
	texts := slices.Concat(fixedInstrs(), fixedLasts(), noInstrs(), fixedForms())
	r := rand.New(rand.NewSource(25))
	for _, program := range sampleLists() {
		b := program[r.Intn(len(program))]
		text, other := b.Code[r.Intn(len(b.Code))], b.Code[r.Intn(len(b.Code))]
		texts = append(texts, text, spoiled(r, text), swappedAtoms(r, text), swappedParts(r, text), withPart(r, text, spanOf(other, randomStart(r, other))))
	}
	return texts
}

// P55 and P56, and what an instruction is.
func TestInstrsAgreeWithTheOracle(t *testing.T) {
	valid := 0
	for _, text := range sampleInstrs() {
		checkInstr(t, text, isInstr(text), isInstr(text) && ends(text))
		if !impl.InstrValid(text) {
			continue
		}
		valid++
		parts, ok := impl.FormParts(text)
		if !ok || len(parts) < 2 {
			t.Fatalf("%q has the parts %q", cut(text), parts)
		}
		if r, ok := impl.ExprNumber(parts[1]); !ok || r < 0 || r >= impl.RegsMax {
			t.Errorf("%q has the register %q", cut(text), parts[1])
		}
		last := parts[0] == "jump" || parts[0] == "halt"
		if impl.InstrLast(text) != last || last && len(parts) != 2 {
			t.Errorf("%q is a last instruction: %v", cut(text), impl.InstrLast(text))
		}
	}
	if valid < 2000 {
		t.Errorf("%d of the samples are instructions", valid)
	}
}

// checkBlock checks whether a block is valid; as main without Regs it is a program then (P57).
func checkBlock(t *testing.T, b impl.Block, want bool) {
	t.Helper()
	if impl.BlockValid(b) != want || isBlock(b) != want {
		t.Errorf("BlockValid of %s with %d types and %d instructions is %v", cut(b.Label), len(b.Regs), len(b.Code), impl.BlockValid(b))
	}
	if want {
		for k, text := range b.Code {
			if impl.InstrLast(text) != (k == len(b.Code)-1) {
				t.Errorf("instruction %d of %d is a last one: %v", k, len(b.Code), impl.InstrLast(text))
			}
		}
		checkProgram(t, []impl.Block{{Label: "main", Code: b.Code}}, true)
	}
}

// checkProgram checks whether a list is a program, and what follows from it: P58 and P59.
func checkProgram(t *testing.T, program []impl.Block, want bool) {
	t.Helper()
	if impl.ProgramValid(program) != want || isProgram(program) != want {
		t.Errorf("ProgramValid of %d blocks is %v: %.300q", len(program), impl.ProgramValid(program), program)
	}
	for k, b := range program[:min(len(program), impl.BlocksMax+2)] {
		found := -1
		if want {
			found = k
		}
		if at := impl.ProgramFind(program, b.Label); at != found {
			t.Errorf("ProgramFind of %q is %d of %d", cut(b.Label), at, len(program))
		}
		if want && !impl.ProgramValid(program[:k+1]) {
			t.Errorf("the first %d blocks of a program are none", k+1)
		}
	}
	for _, label := range []string{"", "none", "MAIN", "main ", "(a)", "0", "-1"} {
		if at := impl.ProgramFind(program, label); at != -1 {
			t.Errorf("ProgramFind of %q is %d", label, at)
		}
	}
}

func TestBlocksOfSomeCode(t *testing.T) {
	cases := []struct {
		code []string
		want bool
	}{
		{nil, false},
		{[]string{}, false},
		{[]string{"(halt 0)"}, true},
		{[]string{"(jump 39)"}, true},
		{[]string{"(const 0 1)"}, false},
		{[]string{"(const 0 1)", "(halt 0)"}, true},
		{[]string{"(const 0 1)", "(mov 1 0)", "(jump 1)"}, true},
		{[]string{"(halt 0)", "(const 0 1)"}, false},
		{[]string{"(halt 0)", "(halt 0)"}, false},
		{[]string{"(jump 0)", "(halt 0)"}, false},
		{[]string{"(const 0 1)", "(jump 0)", "(halt 0)"}, false},
		{[]string{"(const 0 1)", "(halt 0)", "(const 0 1)", "(halt 0)"}, false},
		{[]string{"(halt 0)", "(const 0 1)", "(halt 0)"}, false},
		{[]string{"(zero 0 a)"}, false},
		{[]string{"(zero 0 a)", "(halt 0)"}, true},
		{[]string{"(const 0 1)", ""}, false},
		{[]string{"", "(halt 0)"}, false},
		{[]string{"(const 0 1)", "(halt 40)"}, false},
		{[]string{"(const 0 1)", "(const 0)", "(halt 0)"}, false},
		{[]string{"(const 0 1) (halt 0)"}, false},
		{slices.Repeat([]string{"(const 0 1)"}, impl.CodeMax), false},
		{append(slices.Repeat([]string{"(const 0 1)"}, impl.CodeMax-1), "(halt 0)"), true},
		{append(slices.Repeat([]string{"(const 0 1)"}, impl.CodeMax), "(halt 0)"), false},
		{append(slices.Repeat([]string{"(const 0 1)"}, 1<<18), "(halt 0)"), false},
		{slices.Repeat([]string{"(halt 0)"}, impl.CodeMax), false},
		{[]string{"(new 0" + strings.Repeat(" 39", 3997) + " 0)", "(halt 0)"}, true},
	}
	for _, c := range cases {
		checkBlock(t, impl.Block{Label: "b", Code: c.code}, c.want)
		checkBlock(t, impl.Block{Label: "main", Regs: []string{"i", "(e (t v))"}, Code: c.code}, c.want)
		checkBlock(t, impl.Block{Label: "B", Code: c.code}, false)
		checkProgram(t, []impl.Block{{Label: "main", Code: c.code}}, c.want)
		checkProgram(t, []impl.Block{{Label: "main", Code: []string{"(halt 0)"}}, {Label: "b", Regs: []string{"i"}, Code: c.code}}, c.want)
	}
}

func TestBlocksOfSomeRegs(t *testing.T) {
	good := [][]string{nil, {}, {"i"}, {"i", "(t)", "(e (t v (e v)))"}, slices.Repeat([]string{"i"}, impl.RegsMax), slices.Repeat([]string{longTarget(impl.FormMax - 1)}, impl.RegsMax)}
	bad := [][]string{{"v"}, {"a0"}, {"i", "a0"}, {"(t a0)", "i"}, {"(e (t v a12))"}, {"(t v)"}, {"x"}, {""}, {"i", ""}, {"(t"}, slices.Repeat([]string{"i"}, impl.RegsMax+1), slices.Repeat([]string{"i"}, 1<<18), slices.Repeat([]string{"a0"}, impl.RegsMax), append(slices.Repeat([]string{"i"}, impl.RegsMax-1), "v")}
	for _, text := range fixedTargets() {
		good = append(good, []string{text}, []string{"i", text})
	}
	for _, text := range slices.Concat(noTargets(), openOnly(), openWithV()) {
		bad = append(bad, []string{text}, []string{"i", text}, []string{text, "i"})
	}
	code := []string{"(halt 0)"}
	for _, regs := range good {
		checkBlock(t, impl.Block{Label: "b", Regs: regs, Code: code}, true)
		checkProgram(t, []impl.Block{{Label: "main", Code: code}, {Label: "b", Regs: regs, Code: code}}, true)
		checkProgram(t, []impl.Block{{Label: "main", Regs: regs, Code: code}}, len(regs) == 0)
		checkProgram(t, []impl.Block{{Label: "main", Regs: regs, Code: code}, {Label: "b", Code: code}}, len(regs) == 0)
	}
	for _, regs := range bad {
		checkBlock(t, impl.Block{Label: "b", Regs: regs, Code: code}, false)
		checkProgram(t, []impl.Block{{Label: "main", Code: code}, {Label: "b", Regs: regs, Code: code}}, false)
		checkProgram(t, []impl.Block{{Label: "main", Regs: regs, Code: code}}, false)
	}
}

func TestBlocksOfSomeLabels(t *testing.T) {
	code := []string{"(halt 0)"}
	for _, label := range []string{"a", "z", "main", "b0", "b00", "b1b2", "v", "i", "halt", "a0", "mainly", strings.Repeat("a", impl.FormMax)} {
		checkBlock(t, impl.Block{Label: label, Code: code}, true)
		checkProgram(t, []impl.Block{{Label: label, Code: code}}, label == "main")
		checkProgram(t, []impl.Block{{Label: "main", Code: code}, {Label: label, Code: code}}, label != "main")
	}
	for _, label := range []string{"", "0", "0a", "1", "-a", "+", "*", ">", "a-", "a+b", "a*", "a>", "->", "A", "Main", "aB", "a b", "a ", " a", "(a)", "a\n", "a\x00", "é", "aé", "\xff", strings.Repeat("a", impl.FormMax+1), strings.Repeat("a", 1<<20)} {
		checkBlock(t, impl.Block{Label: label, Code: code}, false)
		checkProgram(t, []impl.Block{{Label: label, Code: code}}, false)
		checkProgram(t, []impl.Block{{Label: "main", Code: code}, {Label: label, Code: code}}, false)
		checkProgram(t, []impl.Block{{Label: "main", Code: code}, {Label: "b", Code: code}, {Label: label, Code: code}}, false)
	}
}

// numbered are blocks main, b1, b2 and so on.
func numbered(n int) []impl.Block {
	program := []impl.Block{{Label: "main", Code: []string{"(halt 0)"}}}
	for k := 1; k < n; k++ {
		program = append(program, impl.Block{Label: "b" + strconv.Itoa(k), Regs: []string{"i"}, Code: []string{"(halt 0)"}})
	}
	return program
}

func TestProgramsOfSomeBlocks(t *testing.T) {
	checkProgram(t, nil, false)
	checkProgram(t, []impl.Block{}, false)
	checkProgram(t, []impl.Block{{}}, false)
	for _, n := range []int{1, 2, 3, impl.BlocksMax - 1, impl.BlocksMax} {
		program := numbered(n)
		checkProgram(t, program, true)
		checkProgram(t, program[1:], false)
		for k := 1; k < n; k++ {
			if at := impl.ProgramFind(program, "b"+strconv.Itoa(k)); at != k {
				t.Errorf("ProgramFind of b%d is %d", k, at)
			}
			same := cloned(program)
			same[k].Label = "main"
			checkProgram(t, same, false)
			same[k].Label = "b" + strconv.Itoa(k%(n-1)+1)
			checkProgram(t, same, n == 2)
			same[k].Label = "b" + strconv.Itoa(k)
			same[0], same[k] = same[k], same[0]
			checkProgram(t, same, false)
		}
		if at := impl.ProgramFind(program, "b"+strconv.Itoa(n)); at != -1 {
			t.Errorf("ProgramFind of b%d is %d", n, at)
		}
	}
	for _, n := range []int{impl.BlocksMax + 1, impl.BlocksMax + 2, 100, 1 << 16} {
		checkProgram(t, numbered(n), false)
		if at := impl.ProgramFind(numbered(n), "b1"); at != -1 {
			t.Errorf("ProgramFind of %d blocks is %d", n, at)
		}
	}
	checkProgram(t, append(numbered(3), impl.Block{}), false)
	checkProgram(t, append(numbered(3), numbered(3)...), false)
	checkProgram(t, append(numbered(1), numbered(1)...), false)
	checkProgram(t, append(numbered(3), impl.Block{Label: "b2", Code: []string{"(const 0 1)", "(halt 0)"}}), false)
}

// P57, P58 and P59, and what a block and a program are.
func TestProgramsAgreeWithTheOracle(t *testing.T) {
	programs := 0
	for _, list := range sampleLists() {
		for _, b := range list {
			checkBlock(t, b, isBlock(b))
		}
		checkProgram(t, list, isProgram(list))
		if isProgram(list) {
			programs++
		}
	}
	if programs < 500 || len(sampleLists())-programs < 300 {
		t.Errorf("of %d samples %d are programs", len(sampleLists()), programs)
	}
}
