package tests

import (
	"slices"
	"strconv"
	"strings"
	"testing"

	"loop.example/typedassembly/impl"
)

// beside are blocks that instructions of the tests name, the last one with the Regs and the code of a test.
func beside(regs []string, code string) []impl.Block {
	return []impl.Block{
		{Label: "main", Code: []string{"(const 0 1)", "(halt 0)"}},
		{Label: "none", Code: []string{"(new 0)", "(halt 0)"}},
		{Label: "one", Regs: []string{"i"}, Code: []string{"(halt 0)"}},
		{Label: "two", Regs: []string{"i", "(t i)"}, Code: []string{"(halt 1)"}},
		{Label: "pack", Regs: []string{"(e (t v (c v)))"}, Code: []string{"(open 0 0)", "(halt 0)"}},
		{Label: "b", Regs: regs, Code: itemsOf("(" + code + ")")},
	}
}

// checkAt checks the type of a register behind the first instructions of a block, or that there is none if it is "".
func checkAt(t *testing.T, program []impl.Block, k int, n int, r int, want string) {
	t.Helper()
	if kind, ok := impl.CheckType(program, k, n, r); ok != (want != "") || kind != want {
		t.Errorf("CheckType behind %d instructions of %.300q of register %d is %q, %v, not %q", n, program[k].Code, r, cut(kind), ok, cut(want))
	}
}

// checkFaultAt checks the index of the first instruction of a block that does not have what it needs, or that there is none if it is -1.
func checkFaultAt(t *testing.T, program []impl.Block, k int, want int) {
	t.Helper()
	index, ok := impl.CheckFault(program, k)
	if ok != (want >= 0) || ok && index != want || !ok && index != 0 {
		t.Errorf("CheckFault of %.300q with %.300q is %d, %v, not %d", program[k].Code, program[k].Regs, index, ok, want)
	}
	if impl.CheckBlock(program, k) != (want < 0) {
		t.Errorf("CheckBlock of %.300q with %.300q is %v", program[k].Code, program[k].Regs, impl.CheckBlock(program, k))
	}
}

// checkGives checks that code for a block with some Regs has what it needs, and the type of a register behind it.
func checkGives(t *testing.T, regs []string, code string, r int, want string) {
	t.Helper()
	program := beside(regs, code+" (halt "+strconv.Itoa(r)+")")
	k := len(program) - 1
	checkAt(t, program, k, len(program[k].Code)-1, r, want)
	checkAt(t, program, k, len(program[k].Code), r, "")
	checkFaultAt(t, program, k, -1)
	if !impl.CheckProgram(program) {
		t.Errorf("CheckProgram with %.300q does not hold", program[k].Code)
	}
}

// checkLacks checks that the last instruction of some code does not have what it needs, but all ahead of it have.
func checkLacks(t *testing.T, regs []string, code string) {
	t.Helper()
	program := beside(regs, code)
	k := len(program) - 1
	at := len(program[k].Code) - 1
	if !ends(program[k].Code[at]) {
		program[k].Code = append(program[k].Code, "(const 0 1)", "(halt 0)")
	}
	if !isProgram(program) {
		t.Fatalf("%.300q with %.300q is no block of a program", program[k].Code, regs)
	}
	checkFaultAt(t, program, k, at)
	for r, kind := range regs {
		checkAt(t, program, k, 0, r, kind)
	}
	for _, r := range []int{0, 1, 2, 39} {
		checkAt(t, program, k, at+1, r, "")
		checkAt(t, program, k, at+2, r, "")
	}
	if impl.CheckProgram(program) {
		t.Errorf("CheckProgram with %.300q holds", program[k].Code)
	}
}

func TestChecksOfConstAndMov(t *testing.T) {
	checkGives(t, nil, "(const 0 5)", 0, "i")
	checkGives(t, nil, "(const 39 -999)", 39, "i")
	checkGives(t, []string{"(t i)"}, "(const 0 5)", 0, "i")
	checkGives(t, []string{"(t i)"}, "(const 1 5)", 0, "(t i)")
	checkGives(t, []string{"(t i)"}, "(mov 1 0)", 1, "(t i)")
	checkGives(t, []string{"(t i)"}, "(mov 1 0)", 0, "(t i)")
	checkGives(t, []string{"(t i)"}, "(mov 0 0)", 0, "(t i)")
	checkGives(t, []string{"(t i)", "i", "(e v)"}, "(mov 0 1) (mov 1 2) (mov 2 0)", 1, "(e v)")
	checkGives(t, []string{"(t i)", "i", "(e v)"}, "(mov 0 1) (mov 1 2) (mov 2 0)", 2, "i")
	checkGives(t, []string{"(e (e v))"}, "(open 0 0) (mov 7 0)", 7, "(e v)")
	checkGives(t, []string{"(e v)"}, "(open 0 0) (mov 39 0) (mov 0 39)", 0, "a0")
	checkLacks(t, nil, "(mov 0 0)")
	checkLacks(t, nil, "(mov 0 39)")
	checkLacks(t, []string{"i"}, "(mov 0 1)")
	checkLacks(t, []string{"i"}, "(mov 2 1)")
	checkLacks(t, []string{"i", "i"}, "(mov 3 0) (mov 3 2)")
}

func TestChecksOfReckoning(t *testing.T) {
	others := []string{"(t)", "(t i)", "(c)", "(c i)", "(e v)", "(e i)", "(t i i)"}
	for _, head := range []string{"add", "sub", "mul"} {
		checkGives(t, []string{"i", "i"}, "("+head+" 2 0 1)", 2, "i")
		checkGives(t, []string{"i", "i"}, "("+head+" 0 0 1)", 0, "i")
		checkGives(t, []string{"i"}, "("+head+" 0 0 0)", 0, "i")
		checkGives(t, []string{"i", "(t)"}, "("+head+" 1 0 0)", 1, "i")
		checkGives(t, []string{"i", "(t)"}, "("+head+" 39 0 0)", 1, "(t)")
		checkGives(t, []string{"(e (t v i))"}, "(open 0 0) (get 0 0 1) ("+head+" 1 0 0)", 1, "i")
		for _, kind := range others {
			checkLacks(t, []string{"i", kind}, "("+head+" 0 0 1)")
			checkLacks(t, []string{"i", kind}, "("+head+" 0 1 0)")
			checkLacks(t, []string{"i", kind}, "("+head+" 0 1 1)")
		}
		checkLacks(t, nil, "("+head+" 0 1 2)")
		checkLacks(t, []string{"i"}, "("+head+" 0 0 1)")
		checkLacks(t, []string{"i"}, "("+head+" 0 1 0)")
		checkLacks(t, []string{"i"}, "("+head+" 1 0 1)")
		checkLacks(t, []string{"i", "(e v)"}, "(open 2 1) ("+head+" 0 0 2)")
		checkLacks(t, []string{"i", "(e v)"}, "(open 2 1) ("+head+" 0 2 0)")
	}
}

func TestChecksOfNewAndGet(t *testing.T) {
	checkGives(t, nil, "(new 0)", 0, "(t)")
	checkGives(t, []string{"i"}, "(new 0)", 0, "(t)")
	checkGives(t, []string{"i"}, "(new 0 0)", 0, "(t i)")
	checkGives(t, []string{"i"}, "(new 1 0 0 0)", 1, "(t i i i)")
	checkGives(t, []string{"i", "(t)", "(e v)"}, "(new 39 2 1 0 1)", 39, "(t (e v) (t) i (t))")
	checkGives(t, []string{"i"}, "(new 0 0) (new 0 0) (new 0 0 0)", 0, "(t (t (t i)) (t (t i)))")
	checkGives(t, []string{"(e (t v (c v i)))", "i"}, "(open 0 0) (new 1 0 1)", 1, "(t (t a0 (c a0 i)) i)")
	checkGives(t, []string{"i"}, "(new 1"+strings.Repeat(" 0", 5000)+")", 1, "(t"+strings.Repeat(" i", 5000)+")")
	checkLacks(t, nil, "(new 0 0)")
	checkLacks(t, []string{"i"}, "(new 0 1)")
	checkLacks(t, []string{"i"}, "(new 1 0 1)")
	checkLacks(t, []string{"i"}, "(new 1 1 0)")
	checkLacks(t, []string{"i", "i"}, "(new 3 0 1 0 2)")
	checkGives(t, []string{"(t i)"}, "(get 1 0 0)", 1, "i")
	checkGives(t, []string{"(t i)"}, "(get 0 0 0)", 0, "i")
	checkGives(t, []string{"(t i (t) (e v))"}, "(get 39 0 0)", 39, "i")
	checkGives(t, []string{"(t i (t) (e v))"}, "(get 0 0 1)", 0, "(t)")
	checkGives(t, []string{"(t i (t) (e v))", "i"}, "(get 1 0 2)", 1, "(e v)")
	checkGives(t, []string{"(t (t (t i (c i)) i) i)"}, "(get 0 0 0) (get 0 0 0) (get 0 0 1)", 0, "(c i)")
	checkGives(t, []string{"(e (t v (c v)))"}, "(open 0 0) (get 1 0 0)", 1, "a0")
	checkGives(t, []string{"(e (t v (c v)))"}, "(open 0 0) (get 1 0 1)", 1, "(c a0)")
	checkGives(t, []string{"(t" + strings.Repeat(" (t)", 999) + " i (c))"}, "(get 1 0 999)", 1, "i")
	checkGives(t, []string{"(t" + strings.Repeat(" (t)", 998) + " i (c))"}, "(get 1 0 999)", 1, "(c)")
	checkLacks(t, nil, "(get 0 0 0)")
	checkLacks(t, []string{"(t i)"}, "(get 0 1 0)")
	checkLacks(t, []string{"(t)"}, "(get 0 0 0)")
	checkLacks(t, []string{"(t i)"}, "(get 0 0 1)")
	checkLacks(t, []string{"(t i i)"}, "(get 0 0 2)")
	checkLacks(t, []string{"(t i i)"}, "(get 0 0 999)")
	checkLacks(t, []string{"(t" + strings.Repeat(" i", 999) + ")"}, "(get 1 0 999)")
	for _, kind := range []string{"i", "(c i i)", "(c)", "(e i)", "(e (t i i))", "(e v)", "(c (t i))"} {
		checkLacks(t, []string{kind}, "(get 0 0 0)")
		checkLacks(t, []string{kind}, "(get 1 0 1)")
	}
	checkLacks(t, []string{"(e v)"}, "(open 0 0) (get 0 0 0)")
	checkLacks(t, []string{"(t i)"}, "(get 0 0 0) (get 0 0 0)")
}

func TestChecksOfLab(t *testing.T) {
	checkGives(t, nil, "(lab 0 none)", 0, "(c)")
	checkGives(t, nil, "(lab 0 main)", 0, "(c)")
	checkGives(t, nil, "(lab 39 one)", 39, "(c i)")
	checkGives(t, []string{"i"}, "(lab 0 two)", 0, "(c i (t i))")
	checkGives(t, []string{"i", "(t)"}, "(lab 1 b)", 1, "(c i (t))")
	checkGives(t, nil, "(lab 1 pack)", 1, "(c (e (t v (c v))))")
	checkGives(t, []string{"(c (t (e v)) i)"}, "(lab 1 b)", 1, "(c (c (t (e v)) i))")
	checkGives(t, []string{"(e v)"}, "(open 0 0) (lab 1 b)", 1, "(c (e v))")
	for _, label := range []string{"a", "b0", "x", "on", "onee", "m", "mainmain", "v", "i", strings.Repeat("a", 1000)} {
		checkLacks(t, nil, "(lab 0 "+label+")")
		checkLacks(t, []string{"i"}, "(lab 1 "+label+")")
	}
}

func TestChecksOfPack(t *testing.T) {
	cases := [][3]string{
		{"i", "(e v)", "i"},
		{"i", "(e i)", "i"},
		{"i", "(e i)", "(t (e v))"},
		{"(t i)", "(e v)", "(t i)"},
		{"(t i)", "(e (t v))", "i"},
		{"(t i)", "(e (t i))", "(c)"},
		{"(t i i)", "(e (t v v))", "i"},
		{"(t i i)", "(e (t v i))", "i"},
		{"(t i i)", "(e (t i v))", "i"},
		{"(t i i)", "(e (t i i))", "i"},
		{"(t (c (t) i) (t))", "(e (t (c v i) v))", "(t)"},
		{"(c (t i (t i)))", "(e (c (t i v)))", "(t i)"},
		// Packages within: v of the inner one is its own.
		{"(e v)", "(e (e v))", "i"},
		{"(e v)", "(e (e v))", "(t)"},
		{"(e v)", "(e v)", "(e v)"},
		{"(e (e v))", "(e v)", "(e (e v))"},
		{"(t i (e v))", "(e (t v (e v)))", "i"},
		{"(t (e v) (e v))", "(e (t v (e v)))", "(e v)"},
		{"(t (e v) (e v))", "(e (t v v))", "(e v)"},
		{"(t (t) (e (t v (e (t v i)))))", "(e (t v (e (t v (e (t v i))))))", "(t)"},
		{"(e (t (e (t v v)) v))", "(e (e (t (e (t v v)) v)))", "i"},
		{"(t (c (e (t v i)) (e (t (c (e (t v i))) v))) (e (t v i)))", "(e (t (c v (e (t (c (e (t v i))) v))) v))", "(e (t v i))"},
	}
	for _, c := range cases {
		checkGives(t, []string{c[0]}, "(pack 1 0 "+c[1]+" "+c[2]+")", 1, c[1])
		checkGives(t, []string{c[0]}, "(pack 0 0 "+c[1]+" "+c[2]+")", 0, c[1])
		checkGives(t, []string{c[0]}, "(pack 39 0 "+c[1]+" "+c[2]+")", 0, c[0])
		checkGives(t, []string{c[0]}, "(pack 0 0 "+c[1]+" "+c[2]+") (pack 0 0 (e v) "+c[1]+")", 0, "(e v)")
		checkGives(t, []string{c[0]}, "(pack 0 0 "+c[1]+" "+c[2]+") (pack 0 0 (e "+c[1]+") i)", 0, "(e "+c[1]+")")
		checkGives(t, []string{c[0]}, "(pack 0 0 "+c[1]+" "+c[2]+") (new 1 0 0) (pack 1 1 (e (t v "+c[1]+")) "+c[1]+")", 1, "(e (t v "+c[1]+"))")
		checkLacks(t, []string{c[0]}, "(pack 1 1 "+c[1]+" "+c[2]+")")
		checkLacks(t, []string{"(t " + c[0] + ")"}, "(pack 0 0 "+c[1]+" "+c[2]+")")
	}
}

func TestChecksOfPackWithTypesThatDoNotFit(t *testing.T) {
	cases := [][3]string{
		{"i", "(e v)", "(t)"},
		{"(t)", "(e v)", "i"},
		{"i", "(e (t v))", "i"},
		{"(t i)", "(e (t v))", "(t i)"},
		{"(t i)", "(e (c v))", "i"},
		{"(t i (t))", "(e (t v v))", "i"},
		{"(t i (t))", "(e (t v v))", "(t)"},
		{"(t i i)", "(e (t v))", "i"},
		{"(t i)", "(e (t v v))", "i"},
		{"(t i)", "(e (t v i))", "i"},
		{"(t i i)", "(e (t (t v)))", "i"},
		{"(e i)", "(e (e v))", "i"},
		{"(e (t i))", "(e (e (t v)))", "i"},
		{"(t i (e i))", "(e (t v (e v)))", "i"},
		{"(t (e v) (e (e v)))", "(e (t v (e v)))", "(e v)"},
		{"(e v)", "(e v)", "i"},
		{"(e v)", "(e i)", "i"},
		{"(e v)", "(e (e i))", "i"},
		{"(e (e v))", "(e (e v))", "(e v)"},
	}
	for _, c := range cases {
		checkLacks(t, []string{c[0]}, "(pack 0 0 "+c[1]+" "+c[2]+")")
		checkLacks(t, []string{c[0], c[1]}, "(pack 1 0 "+c[1]+" "+c[2]+")")
	}
	checkLacks(t, nil, "(pack 0 0 (e v) i)")
	checkLacks(t, nil, "(pack 0 0 (e i) i)")
	checkLacks(t, []string{"i"}, "(pack 0 1 (e i) i)")
	checkLacks(t, []string{"(e v)"}, "(open 0 0) (pack 0 0 (e v) i)")
	checkLacks(t, []string{"(e (t v))"}, "(open 0 0) (pack 0 0 (e (t v)) i)")
	checkLacks(t, []string{"(e (t v))"}, "(open 0 0) (get 0 0 0) (pack 0 0 (e v) (t))")
}

func TestChecksOfOpen(t *testing.T) {
	cases := [][2]string{
		{"(e v)", "a0"},
		{"(e i)", "i"},
		{"(e (t))", "(t)"},
		{"(e (t v))", "(t a0)"},
		{"(e (t v i v))", "(t a0 i a0)"},
		{"(e (c v (t i v)))", "(c a0 (t i a0))"},
		{"(e (e v))", "(e v)"},
		{"(e (e i))", "(e i)"},
		{"(e (t v (e v)))", "(t a0 (e v))"},
		{"(e (t (e v) v))", "(t (e v) a0)"},
		{"(e (e (t v (e (t v)))))", "(e (t v (e (t v))))"},
		{"(e (t v (e (t v (e (t v v)))) (t v)))", "(t a0 (e (t v (e (t v v)))) (t a0))"},
		{"(e (t (c v i (e (t (c v i) v))) v))", "(t (c a0 i (e (t (c v i) v))) a0)"},
	}
	for _, c := range cases {
		checkGives(t, []string{c[0]}, "(open 0 0)", 0, c[1])
		checkGives(t, []string{c[0]}, "(open 39 0)", 39, c[1])
		checkGives(t, []string{c[0], "i"}, "(open 1 0)", 1, c[1])
		checkGives(t, []string{c[0], "i"}, "(open 1 0)", 0, c[0])
		for n := 1; n < 13; n++ {
			ahead := strings.Repeat("(open 1 0) ", n)
			other := strings.ReplaceAll(c[1], "a0", "a"+strconv.Itoa(n))
			checkGives(t, []string{c[0]}, ahead+"(const 2 1) (mov 3 2) (open 2 0)", 2, other)
			last := strings.ReplaceAll(c[1], "a0", "a"+strconv.Itoa(n-1))
			checkGives(t, []string{c[0]}, ahead+"(const 2 1) (mov 3 2) (open 2 0)", 1, last)
		}
	}
	for _, kind := range []string{"i", "(t)", "(t (e v))", "(c)", "(c (e v))", "(t (e v) (e v))"} {
		checkLacks(t, []string{kind}, "(open 0 0)")
		checkLacks(t, []string{kind}, "(open 1 0)")
	}
	checkLacks(t, nil, "(open 0 0)")
	checkLacks(t, []string{"(e v)"}, "(open 0 1)")
	checkLacks(t, []string{"(e v)"}, "(open 0 0) (open 0 0)")
	checkLacks(t, []string{"(e i)"}, "(open 0 0) (open 0 0)")
}

// What an open gave is opened again; each open has a number of its own, whatever it is the open of.
func TestChecksOfOpenOfWhatWasOpened(t *testing.T) {
	checkGives(t, []string{"(e (e v))"}, "(open 0 0) (open 1 0)", 1, "a1")
	checkGives(t, []string{"(e (e v))"}, "(open 0 0) (open 1 0) (open 2 0)", 2, "a2")
	checkGives(t, []string{"(e (e (e (t v))))"}, "(open 0 0) (open 0 0) (open 0 0)", 0, "(t a2)")
	checkGives(t, []string{"(e (t v (e (t v))))"}, "(open 0 0) (get 1 0 1) (open 1 1) (new 2 0 1)", 2, "(t (t a0 (e (t v))) (t a1))")
	checkGives(t, []string{"(e (e (t v (e v) (e (t v (e v))))))"}, "(open 0 0) (open 1 0) (get 2 1 2) (open 3 2) (get 4 3 1) (open 5 4) (new 6 1 3 5)", 6,
		"(t (t a1 (e v) (e (t v (e v)))) (t a2 (e v)) a3)")
	checkGives(t, []string{"(e v)", "(e v)"}, "(open 2 0) (open 3 1) (new 4 2 3)", 4, "(t a0 a1)")
	checkGives(t, []string{"(e v)"}, "(open 1 0) (open 2 0) (new 3 1 2)", 3, "(t a0 a1)")
	// The package of a function is opened, and its code jumped to with its own hidden value.
	fun := targetOf("(> i i)")
	checkGives(t, []string{fun}, "(open 1 0) (get 2 1 0) (get 3 1 1)", 2, "(c a0 i (e (t (c v i) v)))")
	checkGives(t, []string{fun}, "(open 1 0) (get 2 1 0) (get 3 1 1)", 3, "a0")
	call := "(open 3 0) (get 4 3 0) (get 5 3 1) (mov 0 5) "
	program := beside([]string{fun, "i", nextOf("i")}, call+"(jump 4)")
	checkFaultAt(t, program, len(program)-1, -1)
	checkLacks(t, []string{fun, "i", nextOf("(* i i)")}, call+"(jump 4)")
	checkLacks(t, []string{fun, "i", nextOf("i")}, "(open 6 0) (get 7 6 1) "+call+"(mov 0 7) (jump 4)")
	checkGives(t, []string{"(t i (t i))"}, "(pack 0 0 (e (t v (t v))) i) (open 0 0) (get 0 0 1)", 0, "(t a0)")
	checkGives(t, []string{"(t i (e v))"}, "(pack 0 0 (e (t v (e v))) i) (pack 0 0 (e (e (t v (e v)))) i) (open 0 0) (open 1 0)", 1, "(t a1 (e v))")
}

func TestChecksOfZero(t *testing.T) {
	checkEnd(t, []string{"i"}, "(zero 0 none) (halt 0)")
	checkEnd(t, []string{"i"}, "(zero 0 main) (halt 0)")
	checkEnd(t, []string{"(t)", "i"}, "(zero 1 none) (halt 0)")
	checkEnd(t, []string{"i"}, "(zero 0 one) (halt 0)")
	checkEnd(t, []string{"i", "i"}, "(zero 1 one) (halt 0)")
	checkEnd(t, []string{"i", "(t i)"}, "(zero 0 two) (halt 0)")
	// More types than are needed.
	checkEnd(t, []string{"i", "(t i)"}, "(zero 0 one) (halt 0)")
	checkEnd(t, []string{"i", "(t i)", "(e v)", "i"}, "(zero 3 two) (halt 0)")
	checkEnd(t, []string{"(e (t v (c v)))", "i"}, "(zero 1 pack) (halt 0)")
	checkEnd(t, []string{"(e (t v (c v)))", "i", "(t)"}, "(zero 1 pack) (halt 0)")
	checkEnd(t, []string{"i"}, "(zero 0 b) (halt 0)")
	checkEnd(t, []string{"(t)", "i"}, "(zero 1 b) (halt 0)")
	checkEnd(t, []string{"i", "(t)", "(t i)", "i"}, "(mov 1 2) (zero 3 two) (halt 0)")
	checkEnd(t, []string{"(e v)", "i"}, "(open 0 0) (zero 1 none) (halt 0)")
	checkEnd(t, []string{"(e v)", "(t i)", "i"}, "(open 39 0) (mov 0 2) (zero 0 two) (halt 39)")
	checkEnd(t, []string{"i"}, "(zero 0 one) (zero 0 none) (zero 0 one) (halt 0)")
	checkGives(t, []string{"i", "(t i)", "(e v)"}, "(zero 0 two)", 2, "(e v)")
	checkGives(t, []string{"i", "(t i)", "(e v)"}, "(zero 0 two)", 0, "i")
}

func TestChecksOfZeroThatLack(t *testing.T) {
	checkLacks(t, nil, "(zero 0 none)")
	checkLacks(t, nil, "(zero 0 main)")
	checkLacks(t, []string{"i"}, "(zero 1 one)")
	checkLacks(t, []string{"i"}, "(zero 0 two)")
	checkLacks(t, []string{"i"}, "(zero 0 a)")
	checkLacks(t, []string{"i"}, "(zero 0 other)")
	checkLacks(t, []string{"i", "i"}, "(zero 0 two)")
	checkLacks(t, []string{"i", "(t)"}, "(zero 0 two)")
	checkLacks(t, []string{"i", "(t i i)"}, "(zero 0 two)")
	checkLacks(t, []string{"i", "(c i)"}, "(zero 0 two)")
	checkLacks(t, []string{"(t i)", "i"}, "(zero 1 two)")
	checkLacks(t, []string{"(t i)", "(t i)", "i"}, "(zero 2 two)")
	checkLacks(t, []string{"(t)", "i"}, "(zero 1 one)")
	checkLacks(t, []string{"(t i)", "i"}, "(zero 0 none)")
	checkLacks(t, []string{"(e v)"}, "(zero 0 none)")
	checkLacks(t, []string{"(c)"}, "(zero 0 none)")
	checkLacks(t, []string{"(e v)", "i"}, "(open 0 0) (zero 0 none)")
	checkLacks(t, []string{"(e v)", "i"}, "(open 0 0) (zero 1 b)")
	checkLacks(t, []string{"(e (t (e v) v))", "i"}, "(zero 1 pack)")
	checkLacks(t, []string{"(e (t v (c i)))", "i"}, "(zero 1 pack)")
	checkLacks(t, []string{"i", "(t)"}, "(const 1 1) (zero 0 b)")
	for _, label := range []string{"none", "one"} {
		checkLacks(t, []string{"(t i)"}, "(zero 0 "+label+")")
	}
}

// checkEnd checks that code whose last instruction is a last one has what it needs.
func checkEnd(t *testing.T, regs []string, code string) {
	t.Helper()
	program := beside(regs, code)
	checkFaultAt(t, program, len(program)-1, -1)
	if !impl.CheckProgram(program) {
		t.Errorf("CheckProgram with %.300q does not hold", code)
	}
}

func TestChecksOfJumpAndHalt(t *testing.T) {
	checkEnd(t, []string{"(c)"}, "(jump 0)")
	checkEnd(t, []string{"i", "(c)"}, "(jump 1)")
	checkEnd(t, []string{"i", "(c i)"}, "(jump 1)")
	checkEnd(t, []string{"i", "(t)", "(c i (t))", "(e v)"}, "(jump 2)")
	checkEnd(t, []string{"i", "(t)", "(c i)"}, "(jump 2)")
	checkEnd(t, nil, "(lab 0 main) (jump 0)")
	checkEnd(t, nil, "(lab 0 b) (jump 0)")
	checkEnd(t, []string{"i"}, "(lab 1 b) (jump 1)")
	checkEnd(t, []string{"i", "(t i)"}, "(lab 39 two) (jump 39)")
	checkEnd(t, []string{"(e (t v (c v)))"}, "(open 0 0) (get 1 0 1) (get 0 0 0) (jump 1)")
	checkEnd(t, append(slices.Repeat([]string{"i"}, 39), "(c"+strings.Repeat(" i", 39)+")"), "(jump 39)")
	checkLacks(t, nil, "(jump 0)")
	checkLacks(t, []string{"(c)"}, "(jump 1)")
	checkLacks(t, []string{"i"}, "(jump 0)")
	checkLacks(t, []string{"(t)"}, "(jump 0)")
	checkLacks(t, []string{"(t i)"}, "(jump 0)")
	checkLacks(t, []string{"(e (c))"}, "(jump 0)")
	checkLacks(t, []string{"(t (c))"}, "(jump 0)")
	checkLacks(t, []string{"(c i)"}, "(jump 0)")
	checkLacks(t, []string{"(c (c i))"}, "(jump 0)")
	checkLacks(t, []string{"i", "(c (t))"}, "(jump 1)")
	checkLacks(t, []string{"i", "(c i i)"}, "(jump 1)")
	checkLacks(t, []string{"i", "(c i (c i))"}, "(jump 1)")
	checkLacks(t, []string{"i", "i", "(c i (t))"}, "(jump 2)")
	checkLacks(t, []string{"i", "i", "(c i i i)"}, "(jump 2)")
	checkLacks(t, []string{"i", "i", "(c i i (c) i)"}, "(jump 2)")
	checkLacks(t, nil, "(lab 0 one) (jump 0)")
	checkLacks(t, []string{"(e (t v (c v)))"}, "(open 0 0) (get 1 0 1) (jump 1)")
	checkLacks(t, []string{"(e (t v (c v)))"}, "(open 1 0) (get 2 1 1) (open 3 0) (get 0 3 0) (jump 2)")
	checkLacks(t, []string{"(e v)"}, "(open 0 0) (jump 0)")
	for _, n := range []int{39, 40, 41, 1000, 5990} {
		checkLacks(t, append(slices.Repeat([]string{"i"}, 38), "(c"+strings.Repeat(" i", n)+")"), "(jump 38)")
		checkLacks(t, append(slices.Repeat([]string{"i"}, 39), "(c"+strings.Repeat(" i", n+1)+")"), "(jump 39)")
	}
	for _, kind := range []string{"i", "(t)", "(c)", "(c i)", "(e v)"} {
		checkEnd(t, []string{kind}, "(halt 0)")
		checkEnd(t, []string{kind}, "(mov 39 0) (halt 39)")
		checkLacks(t, []string{kind}, "(halt 1)")
	}
	checkEnd(t, []string{"(e v)"}, "(open 0 0) (halt 0)")
	checkLacks(t, nil, "(halt 0)")
	checkLacks(t, nil, "(const 0 1) (halt 39)")
}

func TestChecksAtTheGreatestBytes(t *testing.T) {
	checkGives(t, []string{longTarget(impl.FormMax - 5)}, "(new 0 0)", 0, "(t "+longTarget(impl.FormMax-5)+")")
	checkLacks(t, []string{longTarget(impl.FormMax - 3)}, "(new 0 0)")
	checkLacks(t, []string{longTarget(impl.FormMax - 1)}, "(new 1 0)")
	checkGives(t, []string{longTarget(impl.FormMax - 1)}, "(new 1) (mov 1 0)", 1, longTarget(impl.FormMax-1))
	checkLacks(t, []string{longTarget(impl.FormMax - 1)}, "(mov 1 0) (new 2 0 1)")
	// The tuple of (t a0) and a long one has just FormMax bytes, that of (t a10) one more.
	rest := longTarget(impl.FormMax - len("(t (t a0) )"))
	checkGives(t, []string{"(e (t v))", rest}, "(open 2 0) (new 3 2 1)", 3, "(t (t a0) "+rest+")")
	checkGives(t, []string{"(e (t v))", rest}, strings.Repeat("(open 2 0) ", 10)+"(new 3 1 2)", 3, "(t "+rest+" (t a9))")
	checkLacks(t, []string{"(e (t v))", rest}, strings.Repeat("(open 2 0) ", 11)+"(new 3 2 1)")
	checkLacks(t, []string{"(e (t v))", longTarget(len(rest) + 2)}, "(open 2 0) (new 3 2 1)")
	// Each v that is opened is one byte or two more.
	inside := func(n int) string {
		return "(e (t" + strings.Repeat(" v", n) + " " + longTarget(impl.FormMax-1-len("(e (t ))")-2*n) + "))"
	}
	opened := func(n int, by string) string {
		return withHidden(itemsOf(inside(n))[1], by)
	}
	checkGives(t, []string{inside(5)}, "(open 1 0)", 1, opened(5, "a0"))
	checkLacks(t, []string{inside(6)}, "(open 1 0)")
	if len(inside(5)) != impl.FormMax-1 || len(opened(5, "a0")) != impl.FormMax {
		t.Errorf("the package has %d bytes, and opened %d", len(inside(5)), len(opened(5, "a0")))
	}
	ahead := strings.Repeat("(open 2 1) ", 10)
	checkGives(t, []string{inside(2), "(e v)"}, ahead+"(open 1 0)", 1, opened(2, "a10"))
	checkLacks(t, []string{inside(3), "(e v)"}, ahead+"(open 1 0)")
	checkGives(t, []string{inside(5), "(e v)"}, ahead[:len(ahead)-len("(open 2 1) ")]+"(open 1 0)", 1, opened(5, "a9"))
}

func TestChecksOfLongRegs(t *testing.T) {
	for _, c := range []struct {
		regs []string
		fits bool
	}{
		{[]string{longTarget(impl.FormMax - 5)}, true},
		{[]string{longTarget(impl.FormMax - 3)}, false},
		{[]string{longTarget(impl.FormMax - 1)}, false},
		{[]string{"i", longTarget(impl.FormMax - 7)}, true},
		{[]string{"i", longTarget(impl.FormMax - 5)}, false},
		{slices.Repeat([]string{longTarget(297)}, impl.RegsMax), true},
		{slices.Repeat([]string{longTarget(299)}, impl.RegsMax), false},
		{slices.Repeat([]string{longTarget(impl.FormMax - 1)}, impl.RegsMax), false},
		{[]string{inTuples(impl.DepthMax-1, "i")}, true},
		{[]string{"i", inTuples(impl.DepthMax, "i")}, false},
		{[]string{inTuples(impl.DepthMax-2, "(e v)"), "(t i)"}, true},
		{[]string{inTuples(impl.DepthMax-1, "(e v)"), "(t i)"}, false},
	} {
		want := "(c " + strings.Join(c.regs, " ") + ")"
		program := append(numbered(1), impl.Block{Label: "b", Regs: c.regs, Code: []string{"(lab 39 b)", "(halt 39)"}}, impl.Block{Label: "d", Code: []string{"(const 0 1)", "(lab 0 b)", "(halt 0)"}})
		if !c.fits {
			want = ""
		}
		if isForm("(c "+strings.Join(c.regs, " ")+")") != c.fits || !isProgram(program) {
			t.Fatalf("%.300q is told wrongly", c.regs)
		}
		checkAt(t, program, 1, 1, 39, want)
		checkAt(t, program, 2, 2, 0, want)
		checkFaultAt(t, program, 1, map[bool]int{true: -1, false: 0}[c.fits])
		checkFaultAt(t, program, 2, map[bool]int{true: -1, false: 1}[c.fits])
		// A zero to this block needs its types alone, however long their list is.
		program[1].Code = []string{"(mov 39 0)", "(const 0 1)", "(zero 0 none)", "(mov 0 39)", "(const 39 1)", "(zero 39 b)", "(halt 0)"}
		program = append(program, impl.Block{Label: "none", Code: []string{"(new 0)", "(halt 0)"}})
		if len(c.regs) < impl.RegsMax {
			checkFaultAt(t, program, 1, -1)
		}
	}
}

func TestChecksAtTheGreatestDepth(t *testing.T) {
	for _, inner := range []string{"i", "(t)", "(c)", "(e v)", "(e (e v))"} {
		depth := strings.Count(inner, "(")
		deep, over := inTuples(impl.DepthMax-1-depth, inner), inTuples(impl.DepthMax-depth, inner)
		checkGives(t, []string{deep}, "(new 0 0)", 0, "(t "+deep+")")
		checkGives(t, []string{deep}, "(new 1 0 0)", 1, "(t "+deep+" "+deep+")")
		checkLacks(t, []string{over}, "(new 0 0)")
		checkLacks(t, []string{"i", over}, "(new 2 0 0 1)")
		checkLacks(t, []string{deep}, "(new 0 0) (new 0 0)")
		checkGives(t, []string{over}, "(get 0 0 0) (new 0 0)", 0, over)
		checkGives(t, []string{"(e " + deep + ")"}, "(open 0 0)", 0, deep)
		checkGives(t, []string{"(e " + deep + ")"}, "(open 0 0) (new 0 0)", 0, "(t "+deep+")")
		checkLacks(t, []string{"(e " + deep + ")"}, "(open 0 0) (new 0 0) (new 0 0)")
	}
	deep := inTuples(impl.DepthMax-2, "v")
	checkGives(t, []string{"(e " + deep + ")"}, "(open 0 0) (new 0 0) (new 0 0)", 0, inTuples(impl.DepthMax, "a0"))
	checkGives(t, []string{inTuples(impl.DepthMax-2, "i")}, "(pack 0 0 (e "+deep+") i)", 0, "(e "+deep+")")
	checkGives(t, []string{inTuples(impl.DepthMax, "i")}, "(pack 0 0 (e "+deep+") (t (t i)))", 0, "(e "+deep+")")
	checkLacks(t, []string{inTuples(impl.DepthMax, "i")}, "(pack 0 0 (e "+deep+") (t (t (t i))))")
	checkLacks(t, []string{inTuples(impl.DepthMax, "i")}, "(pack 0 0 (e "+deep+") (t i))")
}

// The type that a package needs may be no form; no register has it then.
func TestChecksOfPackOfTypesThatAreTooLarge(t *testing.T) {
	half := longTarget(5997)
	checkGives(t, []string{"(t " + half + " " + half + ")"}, "(pack 0 0 (e (t v v)) "+half+")", 0, "(e (t v v))")
	checkLacks(t, []string{half}, "(pack 0 0 (e (t v v)) "+longTarget(5999)+")")
	many := "(e (t" + strings.Repeat(" v", 2900) + "))"
	checkLacks(t, []string{half}, "(pack 0 0 "+many+" "+half+")")
	checkGives(t, []string{"(t" + strings.Repeat(" i", 2900) + ")"}, "(pack 0 0 "+many+" i)", 0, many)
	checkLacks(t, []string{"(t" + strings.Repeat(" i", 2899) + ")"}, "(pack 0 0 "+many+" i)")
	code := slices.Repeat([]string{"(new 0 0 0)"}, impl.CodeMax-1)
	program := []impl.Block{{Label: "main", Code: append([]string{"(const 0 1)"}, append(code[:impl.CodeMax-2], "(halt 0)")...)}}
	// The bytes grow from b to 2 b + 5: 1, 7, 19 and so on, up to 12283.
	checkFaultAt(t, program, 0, 11)
	checkAt(t, program, 0, 12, 0, "")
	if kind, ok := impl.CheckType(program, 0, 11, 0); !ok || len(kind) != 6139 {
		t.Errorf("CheckType of the largest tuple has %d bytes", len(kind))
	}
}
