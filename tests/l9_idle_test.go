package tests

import (
	"math"
	"slices"
	"strconv"
	"strings"
	"testing"

	"loop.example/typedassembly/impl"
)

// putter is an instruction that puts something into the register 5, and the type of this.
type putter struct{ code, kind string }

// putters have each head that puts something, in a block with the Regs of around.
func putters() []putter {
	return []putter{
		{"(const 5 1)", "i"}, {"(mov 5 0)", "i"}, {"(mov 5 1)", "(t i)"}, {"(mov 5 2)", "(e v)"}, {"(add 5 0 3)", "i"}, {"(sub 5 0 3)", "i"}, {"(mul 5 3 3)", "i"}, {"(new 5)", "(t)"}, {"(new 5 0)", "(t i)"}, {"(new 5 2 1 0)", "(t (e v) (t i) i)"},
		{"(get 5 1 0)", "i"}, {"(lab 5 none)", "(c)"}, {"(lab 5 five)", "(c i (t i) (e v) i (e (t v i)))"}, {"(pack 5 0 (e v) i)", "(e v)"}, {"(pack 5 1 (e (t v)) i)", "(e (t v))"}, {"(open 5 2)", "a0"}, {"(open 5 4)", "(t a0 i)"},
	}
}

// around are blocks with the registers 0 to 4, with these and a further one with a type, and with some code.
func around(kind string, code string) []impl.Block {
	regs := "i (t i) (e v) i (e (t v i))"
	program := coded([3]string{"main", "", "(const 0 1) (halt 0)"}, [3]string{"none", "", "(new 0) (halt 0)"}, [3]string{"five", regs, "(halt 0)"}, [3]string{"b", regs, code})
	if isTarget(kind) {
		program = append(program, coded([3]string{"six", regs + " " + kind, "(halt 0)"})...)
	}
	return program
}

// asking is code behind what puts something into the register 5, which type this must have ("" for any one, "none" for none that is open), and whether it asks for it.
type asking struct {
	code, kind string
	asks       bool
}

func askings() []asking {
	return []asking{
		// Behind which nothing asks for it.
		{"(halt 0)", "", false}, {"(lab 6 five) (jump 6)", "", false}, {"(lab 6 none) (jump 6)", "", false}, {"(zero 0 none) (halt 0)", "", false}, {"(zero 0 five) (halt 0)", "", false}, {"(new 6 0 1 2 3 4) (halt 6)", "", false},
		{"(mov 6 0) (get 7 1 0) (add 8 6 7) (pack 9 8 (e v) i) (open 10 9) (new 11 10) (halt 11)", "", false}, {"(lab 6 five) (zero 3 five) (zero 0 none) (mov 15 0) (mov 0 15) (jump 6)", "", false},
		// It is put anew ahead of the asking.
		{"(const 5 2) (halt 5)", "", false}, {"(mov 5 0) (halt 5)", "", false}, {"(add 5 0 3) (add 5 5 5) (halt 5)", "", false}, {"(new 5) (halt 5)", "", false}, {"(get 5 1 0) (halt 5)", "", false},
		{"(lab 5 none) (jump 5)", "", false}, {"(pack 5 0 (e v) i) (open 5 5) (halt 5)", "", false}, {"(open 5 2) (halt 5)", "", false}, {"(zero 0 five) (mov 5 4) (halt 5)", "", false}, {"(const 5 2) (zero 5 none) (halt 0)", "", false},
		// s and s1, and all of new.
		{"(mov 6 5) (halt 6)", "", true}, {"(mov 0 5) (halt 0)", "", true}, {"(add 6 5 0) (halt 6)", "i", true}, {"(add 6 0 5) (halt 6)", "i", true}, {"(sub 6 5 5) (halt 6)", "i", true}, {"(sub 6 3 5) (halt 6)", "i", true}, {"(mul 6 5 0) (halt 6)", "i", true}, {"(mul 6 0 5) (halt 6)", "i", true},
		{"(new 6 5) (halt 6)", "", true}, {"(new 6 5 0 1) (halt 6)", "", true}, {"(new 6 0 5 1) (halt 6)", "", true}, {"(new 6 0 1 2 3 4 5) (halt 6)", "", true}, {"(new 6 5 5 5) (halt 6)", "", true},
		{"(get 6 5 0) (halt 6)", "(t i)", true}, {"(get 6 5 2) (halt 6)", "(t (e v) (t i) i)", true}, {"(pack 6 5 (e v) i) (halt 6)", "i", true}, {"(pack 6 5 (e (t v)) i) (halt 6)", "(t i)", true}, {"(open 6 5) (halt 6)", "(e v)", true}, {"(open 6 5) (halt 6)", "(e (t v))", true},
		// By what is idle itself.
		{"(mov 6 5) (halt 0)", "", true}, {"(new 6 5) (halt 0)", "", true}, {"(add 6 5 5) (halt 0)", "i", true}, {"(open 6 5) (halt 0)", "(e v)", true}, {"(mov 6 5) (mov 6 0) (halt 6)", "", true},
		// What asks for it and puts it.
		{"(mov 5 5) (halt 5)", "", true}, {"(mov 5 5) (halt 0)", "", true}, {"(new 5 5) (halt 5)", "", true}, {"(new 5 0 5) (halt 0)", "", true}, {"(add 5 5 0) (halt 5)", "i", true}, {"(sub 5 0 5) (halt 0)", "i", true}, {"(get 5 5 0) (halt 5)", "(t i)", true}, {"(pack 5 5 (e v) i) (halt 0)", "i", true}, {"(open 5 5) (halt 5)", "(e v)", true},
		// zero, by its own register and by the Regs of the block.
		{"(zero 5 none) (halt 0)", "i", true}, {"(zero 5 five) (halt 0)", "i", true}, {"(const 6 1) (zero 6 six) (halt 0)", "closed", true}, {"(zero 0 six) (halt 0)", "closed", true}, {"(zero 0 none) (zero 0 five) (zero 0 six) (const 5 1) (halt 5)", "closed", true}, {"(zero 5 six) (halt 0)", "i", true},
		// jump, by its own register and by what its type needs.
		{"(jump 5)", "(c)", true}, {"(jump 5)", "(c i (t i) (e v) i (e (t v i)))", true}, {"(lab 6 six) (jump 6)", "closed", true}, {"(lab 6 six) (mov 7 6) (new 8 7) (get 9 8 0) (jump 9)", "closed", true}, {"(zero 0 none) (lab 6 six) (jump 6)", "closed", true},
		// halt.
		{"(halt 5)", "", true}, {"(zero 0 none) (halt 5)", "", true}, {"(zero 0 five) (const 0 1) (mov 4 0) (halt 5)", "", true},
	}
}

// Each head that puts something is idle or not, by each way of asking.
func TestIdleInstructionsOfEachHead(t *testing.T) {
	idle, asked := map[string]int{}, map[string]int{}
	for _, p := range putters() {
		for _, a := range askings() {
			if a.kind != "" && a.kind != p.kind && !(a.kind == "closed" && isTarget(p.kind)) {
				continue
			}
			program := around(p.kind, p.code+" "+a.code)
			found, ok := impl.BlockIdle(program, 3)
			want, fine := idleIn(program, 3)
			if !ok || !fine || slices.Contains(found, 0) == a.asks || !slices.Equal(found, want) {
				t.Errorf("in %q there are idle %v, %v, and not %v, %v", program[3].Code, found, ok, want, fine)
			}
			head := itemsOf(p.code)[0]
			if a.asks {
				asked[head]++
			} else {
				idle[head]++
			}
		}
	}
	for _, head := range []string{"const", "mov", "add", "sub", "mul", "new", "get", "lab", "pack", "open"} {
		if idle[head] < 15 || asked[head] < 10 {
			t.Errorf("%q is idle %d times, and asked %d times", head, idle[head], asked[head])
		}
	}
}

func TestIdleInstructionsOfSomeBlocks(t *testing.T) {
	closure := "(e (t (c v i) v))"
	cases := []struct {
		regs, code string
		want       []int
	}{
		{"i", "(halt 0)", nil},
		{"(c)", "(jump 0)", nil},
		{"", "(const 0 1) (halt 0)", nil},
		{"", "(const 1 1) (const 0 1) (halt 0)", []int{0}},
		{"", "(const 0 1) (const 1 1) (halt 0)", []int{1}},
		{"", "(const 0 1) (const 0 1) (const 0 1) (halt 0)", []int{0, 1}},
		{"", "(const 0 1) (const 1 2) (add 2 0 1) (halt 0)", []int{2}},
		{"", "(const 0 1) (const 1 2) (add 0 0 1) (halt 1)", []int{2}},
		{"", "(const 0 1) (const 1 2) (add 0 0 1) (mov 1 0) (halt 1)", nil},
		{"i i i", "(mov 1 0) (mov 0 1) (mov 1 2) (halt 0)", []int{2}},
		{"i i i", "(mov 0 0) (mov 1 1) (mov 2 2) (halt 1)", []int{0, 2}},
		{"i", "(mov 1 0) (mov 2 1) (mov 3 2) (mov 4 3) (halt 0)", []int{3}},
		{"i", "(new 1 0) (new 2 1) (new 39 2 1 0) (halt 39)", nil},
		{"", "(new 39) (new 38) (new 0 39 38) (halt 38)", []int{2}},
		// zero is never idle, and does not end the asking.
		{"i", "(zero 0 none) (zero 0 one) (halt 0)", nil},
		{"i", "(const 1 1) (zero 0 none) (zero 0 one) (halt 1)", nil},
		{"i", "(const 1 1) (zero 0 none) (const 1 1) (halt 1)", []int{0}},
		{"i", "(const 1 0) (zero 1 none) (const 1 1) (halt 1)", nil},
		{"i", "(new 1 0) (zero 0 two) (new 1 0) (halt 0)", []int{2}},
		{"i", "(new 1 0) (new 2 0) (zero 0 two) (const 0 1) (halt 0)", []int{1}},
		{"i i", "(const 0 1) (zero 1 one) (const 0 2) (halt 1)", []int{2}},
		{"i i", "(const 0 1) (zero 1 none) (const 0 2) (halt 1)", []int{0, 2}},
		// jump asks for what its type needs, and no more.
		{"i", "(const 1 1) (const 0 2) (lab 2 one) (jump 2)", []int{0}},
		{"i", "(new 1 0) (const 0 2) (lab 2 two) (jump 2)", nil},
		{"i", "(const 0 2) (lab 0 none) (jump 0)", []int{0}},
		{"i", "(const 0 2) (const 1 3) (lab 2 none) (new 3 2) (get 2 3 0) (jump 2)", []int{0, 1}},
		{"i", "(const 0 2) (lab 1 none) (lab 1 one) (jump 1)", []int{1}},
		{"(c i (t i)) i", "(mov 2 0) (new 3 1) (mov 0 1) (mov 1 3) (const 4 1) (jump 2)", []int{4}},
		{"i (c)", "(const 0 1) (jump 1)", []int{0}},
		{"i (c i)", "(const 0 1) (jump 1)", nil},
		// With unknown types, whose numbers are those of open.
		{closure, "(open 0 0) (get 2 0 1) (get 3 0 0) (mov 0 2) (const 1 7) (const 4 7) (jump 3)", []int{5}},
		{closure, "(open 5 0) (open 0 0) (get 2 0 1) (get 3 0 0) (mov 0 2) (const 1 7) (jump 3)", []int{0}},
		{closure, "(open 1 0) (open 2 0) (get 3 1 0) (get 4 2 0) (get 0 1 1) (get 5 2 1) (const 1 7) (jump 3)", []int{3, 5}},
		{"(e (t (e v) v))", "(open 1 0) (get 2 1 0) (open 3 2) (get 4 1 1) (new 5 4) (halt 0)", []int{2, 4}},
		{"(e v)", "(open 0 0) (halt 0)", nil},
		{"(e v)", "(open 1 0) (halt 0)", []int{0}},
		{"(e v)", "(open 1 0) (open 1 0) (open 2 0) (halt 1)", []int{0, 2}},
		{"i", "(lab 1 b) (lab 2 main) (halt 1)", []int{1}},
	}
	for _, c := range cases {
		program := beside(nil, c.code)
		if c.regs != "" {
			program[5].Regs = itemsOf("(" + c.regs + ")")
		}
		checkIdle(t, program, 5, c.want, true)
	}
}

// With the most registers, at both ends of the needs of a block.
func TestIdleInstructionsOfManyRegisters(t *testing.T) {
	for n := range impl.RegsMax + 1 {
		program := coded([3]string{"main", "", ""}, [3]string{"b", "", "(new 0) (halt 0)"})
		program[1].Regs = slices.Repeat([]string{"i"}, n)
		for _, last := range []string{"(zero 39 b) (halt 39)", "(lab 39 b) (jump 39)"} {
			var code []string
			var want []int
			for r := range impl.RegsMax {
				code = append(code, "(const "+strconv.Itoa(r)+" 1)")
				if r >= n && r < 39 || r == 39 && last[1] != 'z' {
					want = append(want, r)
				}
			}
			program[0].Code = append(code, itemsOf("("+last+")")...)
			if n < 40 || last[1] == 'z' {
				checkIdle(t, program, 0, want, true)
			} else {
				checkIdle(t, program, 0, nil, false)
			}
		}
		all := "(new 0"
		for r := range n {
			all += " " + strconv.Itoa(r)
		}
		var want []int
		for r := n; r < impl.RegsMax; r++ {
			want = append(want, r)
		}
		program[0].Code = append(program[0].Code[:40:40], all+")", "(halt 0)")
		checkIdle(t, program, 0, want, true)
	}
	// Many of new, and as many instructions as there can be.
	wide := "(new 1" + strings.Repeat(" 0", 5900) + ")"
	program := []impl.Block{{Label: "main", Code: append(slices.Repeat([]string{"(const 0 1)", wide}, 39), "(const 2 1)", "(halt 2)")}}
	want := []int{}
	for at := 1; at < 78; at += 2 {
		want = append(want, at)
	}
	checkIdle(t, program, 0, want, true)
}

func TestIdleInstructionsThatAreNone(t *testing.T) {
	program := coded([3]string{"main", "", "(const 1 2) (const 0 1) (halt 0)"}, [3]string{"b", "i", "(const 1 2) (halt 2)"}, [3]string{"d", "i", "(const 1 2) (halt 0)"}, [3]string{"x", "i", "(lab 0 none) (const 1 2) (halt 0)"})
	checkIdle(t, program, 0, []int{0}, true)
	checkIdle(t, program, 1, nil, false)
	checkIdle(t, program, 2, []int{0}, true)
	checkIdle(t, program, 3, nil, false)
	for _, k := range []int{-1, -2, 4, 5, 40, 41, 1000, math.MaxInt, math.MinInt, 1 << 32} {
		checkIdle(t, program, k, nil, false)
	}
	// What does not check: each instruction in turn, and the last one.
	for _, code := range []string{"(mov 1 2) (halt 0)", "(const 1 1) (get 2 1 0) (halt 0)", "(const 1 1) (zero 1 none) (zero 1 x) (halt 0)", "(zero 0 two) (halt 0)", "(halt 1)", "(jump 0)", "(lab 1 two) (jump 1)", "(const 2 1) (open 3 0) (halt 0)", "(const 1 5) (pack 2 0 (e v) (t)) (halt 1)"} {
		checkIdle(t, beside([]string{"i"}, code), 5, nil, false)
		checkIdle(t, beside([]string{"i"}, code), 0, nil, true)
	}
	lists := [][]impl.Block{nil, {}, {{}}, numbered(41), halts("main", "b", "b"), halts("b"), {{Label: "main", Regs: []string{"i"}, Code: []string{"(const 1 1)", "(halt 0)"}}}, append(halts("main"), impl.Block{Label: "b"}), {{Label: "main", Code: []string{"(const 0 1)"}}}}
	for _, list := range append(lists, sampleLists()...) {
		for k := range list {
			if !isProgram(list) {
				checkIdle(t, list, k, nil, false)
			}
		}
		checkIdle(t, list, -1, nil, false)
		checkIdle(t, list, len(list), nil, false)
	}
}

// P88, and what is idle by the oracle.
func TestIdleInstructionsOfSamples(t *testing.T) {
	idles, opens := 0, 0
	for _, program := range sampleLoadings() {
		for k, b := range program {
			want, ok := idleIn(program, k)
			checkIdle(t, program, k, want, ok)
			if len(want) == 0 {
				continue
			}
			idle, _ := impl.BlockIdle(program, k)
			if !slices.IsSorted(idle) || slices.Contains(idle, len(b.Code)-1) || len(slices.Compact(slices.Clone(idle))) != len(idle) {
				t.Errorf("of %.300q idle are %v", b.Code, idle)
			}
			// Without the first one, and without any other one.
			for n, at := range idle {
				if n > 2 {
					break
				}
				less := cloned(program)
				less[k].Code = slices.Delete(less[k].Code, at, at+1)
				idles++
				if strings.HasPrefix(b.Code[at], "(open ") {
					opens++
				}
				if !impl.CheckBlock(less, k) {
					t.Errorf("without %q the code %.300q does not check", b.Code[at], b.Code)
				}
			}
		}
	}
	if idles < 2000 || opens < 100 {
		t.Errorf("of the samples %d instructions are idle, and %d open", idles, opens)
	}
}
