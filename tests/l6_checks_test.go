package tests

import (
	"math"
	"math/rand"
	"reflect"
	"slices"
	"strconv"
	"strings"
	"testing"

	"loop.example/typedassembly/impl"
)

func TestFaultsOfBlocks(t *testing.T) {
	cases := []struct {
		regs []string
		code string
		want int
	}{
		{nil, "(halt 0)", 0},
		{nil, "(jump 0)", 0},
		{[]string{"i"}, "(halt 0)", -1},
		{[]string{"i"}, "(jump 0)", 0},
		{nil, "(mov 0 0) (const 0 1) (halt 0)", 0},
		{nil, "(const 0 1) (mov 1 2) (halt 0)", 1},
		{nil, "(const 0 1) (mov 1 0) (halt 2)", 2},
		{nil, "(const 0 1) (mov 1 0) (jump 1)", 2},
		{nil, "(const 0 1) (mov 1 0) (halt 1)", -1},
		// The first one of several.
		{nil, "(mov 0 0) (mov 1 1) (jump 0)", 0},
		{nil, "(const 0 1) (get 0 0 0) (get 1 0 0) (halt 2)", 1},
		{nil, "(const 0 1) (new 1 0) (get 2 1 0) (get 3 1 1) (add 0 1 1) (halt 9)", 3},
		{[]string{"(t i)"}, "(get 0 0 0) (get 0 0 0) (get 0 0 0) (halt 0)", 1},
		{nil, "(lab 0 a) (lab 1 d) (lab 2 b) (jump 2)", 0},
		{nil, "(lab 2 b) (lab 0 a) (lab 1 d) (jump 2)", 1},
		{nil, "(const 0 1) (zero 0 a) (zero 1 none) (halt 1)", 1},
		{nil, "(const 0 1) (zero 0 none) (zero 1 none) (halt 1)", 2},
		// What does not have what it needs gives nothing to those behind it, and is told all the same.
		{nil, "(open 0 1) (mov 1 0) (halt 1)", 0},
		{nil, "(const 1 1) (open 1 1) (const 1 1) (halt 1)", 1},
	}
	for _, c := range cases {
		program := beside(c.regs, c.code)
		checkFaultAt(t, program, len(program)-1, c.want)
		if impl.CheckProgram(program) != (c.want < 0) {
			t.Errorf("CheckProgram with %q is %v", c.code, impl.CheckProgram(program))
		}
		for n := range program[len(program)-1].Code {
			if _, ok := impl.CheckType(program, len(program)-1, n, 39); ok {
				t.Errorf("CheckType of a register without a type behind %d instructions of %q succeeds", n, c.code)
			}
		}
	}
	for at := range impl.CodeMax {
		code := slices.Repeat([]string{"(const 0 1)"}, impl.CodeMax)
		code[impl.CodeMax-1] = "(halt 0)"
		code[at] = map[bool]string{true: "(jump 0)", false: "(mov 0 1)"}[at == impl.CodeMax-1]
		program := []impl.Block{{Label: "main", Code: code}}
		checkFaultAt(t, program, 0, at)
		checkAt(t, program, 0, at, 0, map[bool]string{true: "", false: "i"}[at == 0])
		checkAt(t, program, 0, at+1, 0, "")
	}
}

func TestCheckTypeOfEachNumber(t *testing.T) {
	program := []impl.Block{
		{Label: "main", Code: []string{"(const 0 1)", "(new 1 0)", "(const 1 2)", "(halt 1)"}},
		{Label: "b", Regs: []string{"(e (t v))", "i"}, Code: []string{"(open 39 0)", "(get 0 39 0)", "(open 1 0)", "(const 0 1)", "(halt 0)"}},
		{Label: "d", Regs: slices.Repeat([]string{"(c i)"}, impl.RegsMax), Code: []string{"(halt 39)"}},
	}
	cases := []struct {
		k, n, r int
		want    string
	}{
		{0, 0, 0, ""}, {0, 1, 0, "i"}, {0, 1, 1, ""}, {0, 2, 0, "i"}, {0, 2, 1, "(t i)"}, {0, 3, 1, "i"}, {0, 3, 0, "i"}, {0, 3, 2, ""}, {0, 4, 0, ""}, {0, 4, 1, ""}, {0, 5, 0, ""},
		{1, 0, 0, "(e (t v))"}, {1, 0, 1, "i"}, {1, 0, 39, ""}, {1, 1, 39, "(t a0)"}, {1, 1, 0, "(e (t v))"}, {1, 2, 0, "a0"}, {1, 2, 39, "(t a0)"}, {1, 2, 1, "i"},
		{1, 3, 0, ""}, {1, 3, 1, ""}, {1, 3, 39, ""}, {1, 4, 0, ""}, {1, 4, 39, ""}, {1, 5, 0, ""},
		{2, 0, 0, "(c i)"}, {2, 0, 39, "(c i)"}, {2, 0, 40, ""}, {2, 1, 0, ""}, {2, 0, -1, ""},
	}
	for _, c := range cases {
		checkAt(t, program, c.k, c.n, c.r, c.want)
	}
	for _, wrong := range []int{-1, -2, impl.RegsMax, impl.RegsMax + 1, 1000, math.MaxInt, math.MinInt, math.MinInt + 1, 1 << 32} {
		for k := range program {
			checkAt(t, program, k, 0, wrong, "")
			checkAt(t, program, k, 1, wrong, "")
			checkAt(t, program, k, wrong, 0, "")
		}
		if kind, ok := impl.CheckType(program, wrong, 0, 0); ok || kind != "" {
			t.Errorf("CheckType of block %d is %q", wrong, kind)
		}
	}
	if impl.CheckProgram(program) || impl.CheckBlock(program, 1) || !impl.CheckBlock(program, 0) || !impl.CheckBlock(program, 2) {
		t.Errorf("of the blocks check %v, %v and %v", impl.CheckBlock(program, 0), impl.CheckBlock(program, 1), impl.CheckBlock(program, 2))
	}
}

// checkNoBlock checks that there is no block with an index, or no program.
func checkNoBlock(t *testing.T, program []impl.Block, k int) {
	t.Helper()
	if impl.CheckBlock(program, k) {
		t.Errorf("CheckBlock of block %d of %d holds", k, len(program))
	}
	if index, ok := impl.CheckFault(program, k); ok || index != 0 {
		t.Errorf("CheckFault of block %d of %d is %d, %v", k, len(program), index, ok)
	}
	for n := range 3 {
		if kind, ok := impl.CheckType(program, k, n, 0); ok || kind != "" {
			t.Errorf("CheckType of block %d of %d is %q, %v", k, len(program), kind, ok)
		}
	}
}

func TestChecksOfBlocksThatAreNone(t *testing.T) {
	for _, n := range []int{1, 2, impl.BlocksMax} {
		program := numbered(n)
		program[0].Code = []string{"(const 0 1)", "(halt 0)"}
		for _, k := range []int{-1, -n, n, n + 1, impl.BlocksMax, 1000, math.MaxInt, math.MinInt} {
			checkNoBlock(t, program, k)
		}
		if !impl.CheckProgram(program) || !impl.CheckBlock(program, 0) || !impl.CheckBlock(program, n-1) {
			t.Errorf("a program of %d blocks does not check", n)
		}
	}
	many := numbered(impl.BlocksMax + 1)
	many[0].Code = []string{"(const 0 1)", "(halt 0)"}
	halting := []string{"(const 0 1)", "(halt 0)"}
	lists := [][]impl.Block{
		nil, {}, {{}}, many, many[1:], append(many[:2:2], many[1]), append(many[:2:2], impl.Block{Label: "main", Code: halting}), {{Label: "main", Regs: []string{"i"}, Code: halting}},
		{{Label: "b", Code: halting}}, {{Label: "main"}}, {{Label: "main", Code: halting[:1]}}, {{Label: "main", Code: halting}, {Label: "b", Regs: []string{"a0"}, Code: halting}},
		{{Label: "main", Code: halting}, {Label: "b", Code: []string{"(const 0 1)", "(halt 40)"}}}, {{Label: "main", Code: halting}, {Label: "", Code: halting}}, {{Label: "main", Code: halting}, {Label: "b"}},
	}
	for _, list := range sampleLists() {
		if !isProgram(list) {
			lists = append(lists, list)
		}
	}
	for _, list := range lists {
		for k := -1; k <= min(len(list), 3); k++ {
			checkNoBlock(t, list, k)
		}
		if impl.CheckProgram(list) {
			t.Errorf("CheckProgram of %.300q holds", list)
		}
	}
}

// A program checks if each block does, whether it is reached or not.
func TestChecksOfPrograms(t *testing.T) {
	good, bad := []string{"(const 0 1)", "(halt 0)"}, []string{"(const 0 1)", "(halt 1)"}
	for marks := range 1 << 4 {
		program := numbered(4)
		for k := range program {
			program[k].Regs = nil
			program[k].Code = good
			if marks>>k&1 == 1 {
				program[k].Code = bad
			}
		}
		for k := range program {
			checkFaultAt(t, program, k, map[bool]int{true: 1, false: -1}[marks>>k&1 == 1])
		}
		if impl.CheckProgram(program) != (marks == 0) {
			t.Errorf("CheckProgram of faults %b is %v", marks, impl.CheckProgram(program))
		}
	}
	// Blocks that name those ahead of them, those behind and themselves.
	program := numbered(3)
	program[0].Code = []string{"(const 0 0)", "(zero 0 b1)", "(zero 0 b2)", "(zero 0 main)", "(lab 1 b2)", "(jump 1)"}
	program[1].Code = []string{"(zero 0 main)", "(zero 0 b1)", "(lab 2 b1)", "(jump 2)"}
	if !impl.CheckProgram(program) {
		t.Errorf("CheckProgram of %q does not hold", program)
	}
	for k := range program {
		checkFaultAt(t, program[:2], min(k, 1), map[int]int{0: 2, 1: -1, 2: -1}[k])
	}
}

// spots are some numbers of instructions and registers at which the types of a block are checked.
func spots(r *rand.Rand, code int) [][2]int {
	all := [][2]int{{-1, 0}, {0, -1}, {0, 40}, {code, 0}, {code - 1, 39}, {code + 1, 1}}
	for n := range code {
		all = append(all, [2]int{n, r.Intn(8)})
	}
	return all
}

// P60 to P62, and what the checker tells.
func TestChecksAgreeWithTheOracle(t *testing.T) {
	r := rand.New(rand.NewSource(26))
	for _, program := range samplePrograms() {
		faults := 0
		for k, b := range program {
			all := checkedOf(program, k)
			passed := len(all) - 1
			fault := passed
			if passed == len(b.Code) {
				fault = -1
			} else {
				faults++
			}
			checkFaultAt(t, program, k, fault)
			for _, at := range spots(r, len(b.Code)) {
				want := ""
				if 0 <= at[0] && at[0] <= passed && at[0] < len(b.Code) {
					want = all[at[0]][strconv.Itoa(at[1])]
				}
				checkAt(t, program, k, at[0], at[1], want)
			}
		}
		if impl.CheckProgram(program) != (faults == 0) {
			t.Errorf("CheckProgram of %.300q is %v", program, impl.CheckProgram(program))
		}
	}
}

// P60.
func TestChecksWithAFurtherBlock(t *testing.T) {
	others := []impl.Block{{Label: "further", Code: []string{"(halt 0)"}}, {Label: "none", Regs: []string{"i", "(e v)"}, Code: []string{"(jump 0)"}}, {Label: "z", Regs: []string{"i"}, Code: []string{"(halt 0)"}}}
	checks := 0
	for i, program := range samplePrograms() {
		more := append(slices.Clone(program), others[i%len(others)])
		for k, b := range program {
			if !impl.CheckBlock(program, k) {
				continue
			}
			checks++
			if !impl.CheckBlock(more, k) {
				t.Errorf("CheckBlock of %.300q does not hold with a further block", b.Code)
			}
			for r, kind := range b.Regs {
				checkAt(t, program, k, 0, r, kind)
				checkAt(t, more, k, 0, r, kind)
			}
		}
	}
	if checks < 1000 {
		t.Errorf("%d of the sample blocks check", checks)
	}
}

// P61 and P62.
func TestTypesBehindOneInstructionLess(t *testing.T) {
	r := rand.New(rand.NewSource(27))
	faults, kept := 0, 0
	for _, program := range samplePrograms() {
		k := r.Intn(len(program))
		code := program[k].Code
		fault, ok := impl.CheckFault(program, k)
		if ok {
			faults++
			if impl.CheckBlock(program, k) || fault < 0 || fault >= len(code) {
				t.Errorf("CheckFault of %.300q is %d", code, fault)
			}
			for n := fault + 1; n <= len(code); n++ {
				checkAt(t, program, k, n, r.Intn(8), "")
			}
		}
		for n := 1; n < len(code); n++ {
			at := r.Intn(8)
			kind, ok := impl.CheckType(program, k, n, at)
			if !ok {
				continue
			}
			items := itemsOf(code[n-1])
			before, _ := impl.CheckType(program, k, n-1, at)
			if before == kind {
				kept++
			} else if items[0] == "zero" || items[1] != strconv.Itoa(at) {
				t.Errorf("the type of register %d is %q ahead of %q, and %q behind it", at, before, code[n-1], kind)
			}
		}
	}
	if faults < 100 || kept < 2000 {
		t.Errorf("%d of the samples have a fault, and %d types are kept", faults, kept)
	}
}

func TestCheckerChangesNoArguments(t *testing.T) {
	room := beside([]string{"(e (t v))", "i", "kept"}, "(open 2 0) (get 3 2 0) (new 4 3 1 2) (lab 5 two) (zero 1 none) (pack 1 1 (e v) i) (halt 4)")
	room[5].Regs = room[5].Regs[:2]
	room[5].Code = append(room[5].Code, "kept")[:7]
	room = append(room, impl.Block{Label: "kept", Regs: []string{"kept"}, Code: []string{"kept"}})
	program := room[:6]
	before := cloned(room)
	for range 2 {
		if !impl.ProgramValid(program) || !impl.CheckProgram(program) || impl.ProgramFind(program, "b") != 5 || !impl.BlockValid(program[5]) {
			t.Errorf("the program does not check")
		}
		for k := range program {
			checkFaultAt(t, program, k, -1)
			impl.CheckType(program, k, 6, 4)
		}
		checkAt(t, program, 5, 6, 4, "(t a0 i (t a0))")
		impl.CheckProgram(room)
		impl.CheckFault(room, 5)
	}
	if !reflect.DeepEqual(room, before) || room[5].Regs[:3][2] != "kept" || room[5].Code[:8][7] != "kept" {
		t.Errorf("the checker made its arguments %q", room)
	}
	for _, program := range samplePrograms() {
		before := cloned(program)
		impl.CheckProgram(program)
		impl.CheckFault(program, len(program)-1)
		impl.CheckType(program, len(program)-1, 1, 0)
		if !reflect.DeepEqual(program, before) {
			t.Fatalf("the checker made %.300q of %.300q", program, before)
		}
	}
}

func TestCheckerResultsAreNewTexts(t *testing.T) {
	program := beside([]string{"(t i (c i i))", "(e (t v v))"}, "(mov 2 0) (get 3 2 1) (open 4 1) (new 5 4 4) (lab 6 b) (pack 7 0 (e (t v (c i i))) i) (const 39 1) (halt 0)")
	program = cloned(program)
	k := len(program) - 1
	var args, results []string
	for _, b := range program {
		args = slices.Concat(args, []string{b.Label}, b.Regs, b.Code)
	}
	for range 2 {
		for r := range impl.RegsMax {
			if kind, ok := impl.CheckType(program, k, 7, r); ok {
				results = append(results, kind)
			}
		}
	}
	kind, by := strings.Clone("(> (* i i) (> i i))"), strings.Clone("(t a12 a12)")
	open, plain := strings.Clone("(t a12 v (e v))"), strings.Clone("(e (t v a12))")
	of, _ := impl.TargetOf(kind)
	next, _ := impl.TargetNext(kind)
	back, _ := impl.TargetBack(of)
	put, _ := impl.TargetPut(open, by)
	whole, _ := impl.TargetPut("v", by)
	same, _ := impl.TargetPut(plain, by)
	args = append(args, kind, by, open, plain)
	results = append(results, of, next, back, put, whole, same)
	if len(results) != 2*9+6 || slices.Contains(results, "") || back != kind || whole != by || same != plain {
		t.Fatalf("the results are %q", results)
	}
	for i, result := range results {
		for _, other := range append(args, results[:i]...) {
			if len(result) > 1 && overlaps(other, result) {
				t.Errorf("%q shares memory with %q", result, other)
			}
		}
	}
}

func TestCheckerTakesAnyText(t *testing.T) {
	texts := []string{strings.Repeat("(t ", 1<<18), strings.Repeat("(e ", 1<<18) + "v" + strings.Repeat(")", 1<<18), strings.Repeat("a", 1<<20), "(new" + strings.Repeat(" 0", 1<<18) + ")"}
	r := rand.New(rand.NewSource(28))
	for range 3000 {
		text := make([]byte, r.Intn(20))
		for i := range text {
			text[i] = "()() tceviahlnw012-\n\xff"[r.Intn(21)]
		}
		texts = append(texts, string(text))
	}
	for _, text := range texts {
		if impl.TargetValid(text) != isTarget(text) {
			t.Errorf("TargetValid(%q) is %v", cut(text), impl.TargetValid(text))
		}
		want := ""
		if isOpenWithV(text) {
			want = withHidden(text, "a7")
		}
		checkPut(t, text, "a7", want)
		checkInstr(t, text, isInstr(text), isInstr(text) && ends(text))
		if back, ok := impl.TargetBack(text); ok && targetOf(back) != text {
			t.Errorf("TargetBack(%q) is %q", cut(text), back)
		}
		checkBlock(t, impl.Block{Label: text, Code: []string{"(halt 0)"}}, isLabel(text))
		checkBlock(t, impl.Block{Label: "b", Regs: []string{text}, Code: []string{"(halt 0)"}}, isTarget(text))
		checkBlock(t, impl.Block{Label: "b", Code: []string{text, "(halt 0)"}}, isInstr(text) && !ends(text))
		checkBlock(t, impl.Block{Label: "b", Code: []string{text}}, isInstr(text) && ends(text))
	}
}
