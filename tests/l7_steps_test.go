package tests

import (
	"slices"
	"strconv"
	"strings"
	"testing"

	"loop.example/typedassembly/impl"
)

// stepHeap has tuples of several kinds of words.
func stepHeap() [][]string {
	return [][]string{{}, {"5"}, {"#1", "@one", "-3", "0"}, {"@two", "#2"}}
}

// atInstr is a program with an instruction in its block b, behind another one, and a state at it with words in the registers from 0 on.
func atInstr(instr string, words ...string) ([]impl.Block, impl.State) {
	code := "(new 39) " + instr
	if !ends(instr) {
		code += " (halt 0)"
	}
	return beside(nil, code), stateAt("b", 1, stepHeap(), words...)
}

// checkPuts checks that an instruction puts a word into a register, and goes on to the next one.
func checkPuts(t *testing.T, instr string, r int, want string, words ...string) {
	t.Helper()
	program, s := atInstr(instr, words...)
	next := clonedState(s)
	next.At = 2
	next.Regs[r] = want
	checkGoesOn(t, program, s, next)
}

// checkNews checks that an instruction puts a tuple behind all others, and its word into a register.
func checkNews(t *testing.T, instr string, r int, tuple []string, words ...string) {
	t.Helper()
	program, s := atInstr(instr, words...)
	next := clonedState(s)
	next.At = 2
	next.Regs[r] = "#" + strconv.Itoa(len(s.Heap))
	next.Heap = append(next.Heap, tuple)
	checkGoesOn(t, program, s, next)
}

// checkLeaves checks that an instruction goes on at the beginning of a block, or with the next one if the label is "".
func checkLeaves(t *testing.T, instr string, label string, words ...string) {
	t.Helper()
	program, s := atInstr(instr, words...)
	next := clonedState(s)
	next.At = 2
	if label != "" {
		next.Label, next.At = label, 0
	}
	checkGoesOn(t, program, s, next)
}

// checkStops checks that a state at an instruction is stuck.
func checkStops(t *testing.T, instr string, words ...string) {
	t.Helper()
	program, s := atInstr(instr, words...)
	checkEnds(t, program, s, "")
}

// eachKind are words of each kind that the states of the tests can have.
func eachKind() []string {
	return []string{"0", "1", "-1", "999", "-999", "@main", "@b", "@one", "#0", "#1", "#2", "#3"}
}

func notNumerals() []string {
	return slices.DeleteFunc(append(eachKind(), ""), numeralOnly.MatchString)
}

func TestStepsOfConstMovPackAndOpen(t *testing.T) {
	for _, n := range []int{0, 1, -1, 5, 499, 500, 501, 999, -500, -501, -999} {
		checkPuts(t, "(const 0 "+strconv.Itoa(n)+")", 0, strconv.Itoa(n))
		checkPuts(t, "(const 39 "+strconv.Itoa(n)+")", 39, strconv.Itoa(n), "1", "@main")
		checkPuts(t, "(const 1 "+strconv.Itoa(n)+")", 1, strconv.Itoa(n), "#0", "#3", "#1")
	}
	for _, word := range eachKind() {
		for _, form := range []string{"(mov # $)", "(pack # $ (e v) i)", "(pack # $ (e (t v (e v))) (c i))", "(open # $)"} {
			instr := func(d string, s string) string { return strings.NewReplacer("#", d, "$", s).Replace(form) }
			checkPuts(t, instr("1", "0"), 1, word, word)
			checkPuts(t, instr("0", "0"), 0, word, word)
			checkPuts(t, instr("0", "1"), 0, word, "7", word)
			checkPuts(t, instr("39", "2"), 39, word, "", "@b", word)
			checkPuts(t, instr("0", "3"), 0, word, "#0", "", "1", word)
			checkStops(t, instr("0", "1"), word, "", word)
			checkStops(t, instr("1", "1"), word, "", word)
			checkStops(t, instr("0", "39"), word, word)
		}
	}
}

func TestStepsOfReckoning(t *testing.T) {
	results := func(a int, b int) map[string]int { return map[string]int{"add": a + b, "sub": a - b, "mul": a * b} }
	numbers := []int{-999, -998, -751, -501, -500, -499, -250, -32, -2, -1, 0, 1, 2, 3, 31, 250, 498, 499, 500, 501, 750, 998, 999}
	for _, a := range numbers {
		for _, b := range numbers {
			for head, n := range results(a, b) {
				checkPuts(t, "("+head+" 2 0 1)", 2, strconv.Itoa(shortOf(n)), strconv.Itoa(a), strconv.Itoa(b))
			}
		}
	}
	fixed := []struct{ head, a, b, want string }{
		{"add", "499", "1", "-500"}, {"add", "-500", "-1", "499"}, {"add", "999", "999", "-2"}, {"add", "-999", "-999", "2"}, {"add", "999", "0", "-1"}, {"add", "500", "0", "-500"}, {"add", "-501", "0", "499"},
		{"sub", "-500", "1", "499"}, {"sub", "499", "-1", "-500"}, {"sub", "999", "-999", "-2"}, {"sub", "0", "999", "1"}, {"sub", "2", "3", "-1"}, {"sub", "3", "2", "1"},
		{"mul", "999", "999", "1"}, {"mul", "-999", "999", "-1"}, {"mul", "500", "1", "-500"}, {"mul", "25", "20", "-500"}, {"mul", "32", "31", "-8"}, {"mul", "-501", "1", "499"}, {"mul", "0", "-999", "0"}, {"mul", "-1", "0", "0"},
	}
	for _, c := range fixed {
		checkPuts(t, "("+c.head+" 2 0 1)", 2, c.want, c.a, c.b)
		checkPuts(t, "("+c.head+" 0 0 1)", 0, c.want, c.a, c.b)
		checkPuts(t, "("+c.head+" 1 0 1)", 1, c.want, c.a, c.b)
		checkPuts(t, "("+c.head+" 39 3 2)", 39, c.want, "", "@one", c.b, c.a)
	}
	for head, n := range results(7, 7) {
		checkPuts(t, "("+head+" 1 0 0)", 1, strconv.Itoa(n), "7")
		checkPuts(t, "("+head+" 0 0 0)", 0, strconv.Itoa(n), "7", "@one")
		for _, word := range notNumerals() {
			checkStops(t, "("+head+" 2 0 1)", "7", word)
			checkStops(t, "("+head+" 2 0 1)", word, "7")
			checkStops(t, "("+head+" 2 0 1)", word, "0")
			checkStops(t, "("+head+" 0 0 1)", word, word)
			checkStops(t, "("+head+" 1 0 0)", word, "7")
		}
	}
}

func TestStepsOfNew(t *testing.T) {
	checkNews(t, "(new 0)", 0, nil)
	checkNews(t, "(new 39)", 39, nil, "5")
	checkNews(t, "(new 0)", 0, nil, "#3")
	checkNews(t, "(new 0 1)", 0, []string{"@one"}, "", "@one")
	checkNews(t, "(new 0 0)", 0, []string{"#3"}, "#3")
	checkNews(t, "(new 2 0 1)", 2, []string{"7", "#0"}, "7", "#0")
	checkNews(t, "(new 2 1 0)", 2, []string{"#0", "7"}, "7", "#0")
	checkNews(t, "(new 1 1 0 1 1)", 1, []string{"#0", "7", "#0", "#0"}, "7", "#0")
	checkNews(t, "(new 9"+strings.Repeat(" 0 1", 2000)+")", 9, slices.Repeat([]string{"-7", "@b"}, 2000), "-7", "@b")
	for _, word := range eachKind() {
		checkNews(t, "(new 1 0 0)", 1, []string{word, word}, word)
		checkStops(t, "(new 0 1)", word)
		checkStops(t, "(new 0 0 1)", word)
		checkStops(t, "(new 0 1 0)", word)
		checkStops(t, "(new 1 1)", word)
		checkStops(t, "(new 3 0 1 2)", word, "", word)
		checkStops(t, "(new 3 0 2 0 39)", word, "", word)
	}
}

// With RunMax tuples there is no further one.
func TestStepsOfNewAtAFullHeap(t *testing.T) {
	for _, n := range []int{0, 1, 9, 10, impl.RunMax - 2, impl.RunMax - 1, impl.RunMax} {
		for _, instr := range []string{"(new 0)", "(new 0 0)", "(new 1 0 2)", "(new 1 3)"} {
			program, s := atInstr(instr, "5", "7", "@b")
			s.Heap = slices.Repeat([][]string{{"1"}}, n)
			checkState(t, program, s)
			if impl.StateStuck(program, s) != (n == impl.RunMax || instr == "(new 1 3)") {
				t.Errorf("a state with %d tuples at %q is stuck: %v", n, instr, impl.StateStuck(program, s))
			}
		}
	}
	program, s := atInstr("(mov 1 0)", "#19999")
	s.Heap = slices.Repeat([][]string{{}}, impl.RunMax)
	next := clonedState(s)
	next.Regs[1], next.At = "#19999", 2
	checkGoesOn(t, program, s, next)
}

func TestStepsOfGet(t *testing.T) {
	heap := stepHeap()
	for k, tuple := range heap {
		word := "#" + strconv.Itoa(k)
		for n, want := range tuple {
			checkPuts(t, "(get 1 0 "+strconv.Itoa(n)+")", 1, want, word)
			checkPuts(t, "(get 0 0 "+strconv.Itoa(n)+")", 0, want, word)
			checkPuts(t, "(get 39 1 "+strconv.Itoa(n)+")", 39, want, "#0", word)
		}
		for _, n := range []int{len(tuple), len(tuple) + 1, 100, 999} {
			checkStops(t, "(get 1 0 "+strconv.Itoa(n)+")", word)
			checkStops(t, "(get 0 0 "+strconv.Itoa(n)+")", word)
		}
		checkStops(t, "(get 0 1 0)", word)
		checkStops(t, "(get 1 1 0)", word)
	}
	for _, word := range append(eachKind(), "") {
		if !strings.HasPrefix(word, "#") {
			checkStops(t, "(get 1 0 0)", word, "#1")
			checkStops(t, "(get 0 0 0)", word, "#1")
			checkStops(t, "(get 1 0 1)", word)
		}
	}
	for n := 998; n <= 1001; n++ {
		program, s := atInstr("(get 0 0 999)", "#0")
		s.Heap = [][]string{append(slices.Repeat([]string{"7"}, n-1), "@b")}
		checkState(t, program, s)
		if impl.StateStuck(program, s) != (n < 1000) {
			t.Errorf("the word 999 of %d is not there: %v", n, impl.StateStuck(program, s))
		}
	}
}

func TestStepsOfLab(t *testing.T) {
	for _, label := range []string{"main", "none", "one", "two", "pack", "b"} {
		checkPuts(t, "(lab 0 "+label+")", 0, "@"+label)
		checkPuts(t, "(lab 39 "+label+")", 39, "@"+label, "5")
		checkPuts(t, "(lab 1 "+label+")", 1, "@"+label, "#0", "@one")
	}
	for _, label := range []string{"a", "b0", "x", "on", "onee", "m", "mainmain", "v", strings.Repeat("a", 1000)} {
		checkStops(t, "(lab 0 "+label+")")
		checkStops(t, "(lab 0 "+label+")", "0", "@one", "#0")
		for _, word := range append(eachKind(), "") {
			checkStops(t, "(zero 0 "+label+")", word)
		}
	}
}

func TestStepsOfZero(t *testing.T) {
	for _, label := range []string{"main", "none", "one", "two", "pack", "b"} {
		checkLeaves(t, "(zero 0 "+label+")", label, "0")
		checkLeaves(t, "(zero 0 "+label+")", label, "0", "@one", "#0")
		checkLeaves(t, "(zero 2 "+label+")", label, "1", "", "0")
		for _, word := range []string{"1", "-1", "2", "10", "100", "500", "-500", "999", "-999"} {
			checkLeaves(t, "(zero 0 "+label+")", "", word)
			checkLeaves(t, "(zero 1 "+label+")", "", "0", word)
		}
		for _, word := range notNumerals() {
			checkStops(t, "(zero 0 "+label+")", word, "0", "0")
			checkStops(t, "(zero 39 "+label+")", "0", word)
		}
	}
}

func TestStepsOfJump(t *testing.T) {
	for _, label := range []string{"main", "none", "one", "two", "pack", "b"} {
		checkLeaves(t, "(jump 0)", label, "@"+label)
		checkLeaves(t, "(jump 0)", label, "@"+label, "@main", "#0")
		checkLeaves(t, "(jump 2)", label, "@one", "", "@"+label)
	}
	for _, word := range append(eachKind(), "") {
		if !strings.HasPrefix(word, "@") {
			checkStops(t, "(jump 0)", word)
			checkStops(t, "(jump 0)", word, "@one")
			checkStops(t, "(jump 1)", "@one", word)
		}
	}
	// A tuple of code is no code.
	checkStops(t, "(jump 0)", "#3")
	program := coded([3]string{"main", "", "(jump 0)"})
	checkGoesOn(t, program, stateAt("main", 0, nil, "@main"), stateAt("main", 0, nil, "@main"))
	checkEnds(t, program, stateAt("main", 0, nil), "")
}

// P67.
func TestStatesAtHalt(t *testing.T) {
	for _, word := range eachKind() {
		for _, r := range []int{0, 1, 20, 39} {
			words := make([]string, impl.RegsMax)
			program, s := atInstr("(halt "+strconv.Itoa(r)+")", words...)
			checkEnds(t, program, s, "")
			s.Regs[r] = word
			checkEnds(t, program, s, word)
			s.Regs[(r+1)%impl.RegsMax] = "999"
			checkEnds(t, program, s, word)
			s.Regs[r] = ""
			checkEnds(t, program, s, "")
		}
	}
	// One that is done at its beginning.
	checkEnds(t, numbered(1), stateAt("main", 0, nil, "0"), "0")
	checkEnds(t, numbered(1), stateAt("main", 0, [][]string{{}}, "#0"), "#0")
}

// Each instruction that takes from a register without a word is stuck, and a state may have such registers.
func TestRegistersWithoutWords(t *testing.T) {
	all := slices.Repeat([]string{"#3"}, impl.RegsMax)
	without := func(kind string, registers ...int) []string {
		words := slices.Repeat([]string{kind}, impl.RegsMax)
		for _, r := range registers {
			words[r] = ""
		}
		return words
	}
	cases := []struct {
		instr     string
		registers []int
	}{
		{"(mov 0 7)", []int{7}}, {"(mov 7 7)", []int{7}}, {"(add 0 7 8)", []int{7, 8}}, {"(sub 0 7 8)", []int{7, 8}}, {"(mul 0 7 8)", []int{7, 8}}, {"(add 7 7 7)", []int{7}},
		{"(new 0 7)", []int{7}}, {"(new 0 7 8 9)", []int{7, 8, 9}}, {"(new 7 7)", []int{7}}, {"(new 0 39 0)", []int{0, 39}}, {"(get 0 7 0)", []int{7}}, {"(get 7 7 0)", []int{7}},
		{"(pack 0 7 (e v) i)", []int{7}}, {"(open 0 7)", []int{7}}, {"(open 39 39)", []int{39}}, {"(zero 7 main)", []int{7}}, {"(zero 39 none)", []int{39}}, {"(jump 7)", []int{7}}, {"(jump 39)", []int{39}}, {"(halt 7)", []int{7}}, {"(halt 0)", []int{0}},
	}
	for _, c := range cases {
		checkStops(t, c.instr)
		for _, kind := range []string{"0", "5", "@main", "#3", "#1"} {
			for _, r := range c.registers {
				checkStops(t, c.instr, without(kind, r)...)
			}
			checkStops(t, c.instr, without(kind, c.registers...)...)
		}
	}
	for _, instr := range []string{"(const 0 5)", "(new 0)", "(lab 0 main)"} {
		program, s := atInstr(instr)
		if next, ok := impl.StateStep(program, s); !ok || next.Regs[0] == "" || slices.ContainsFunc(next.Regs[1:], func(word string) bool { return word != "" }) {
			t.Errorf("StateStep of %q without words is %s, %v", instr, shown(next), ok)
		}
	}
	program, s := atInstr("(const 0 5)", all...)
	for r := range s.Regs {
		s.Regs[r] = ""
		if !impl.StateValid(program, s) {
			t.Errorf("a state without a word in register %d is none", r)
		}
		checkPrint(t, program, s, "", "")
		checkPrint(t, program, s, "#3", "fun")
	}
}

// P66, P68 and P72: the steps one by one come to what the oracle comes to.
func TestStepsFromTheStart(t *testing.T) {
	stops := map[string]int{}
	for k, program := range machinePrograms() {
		s, _ := impl.StateStart(program)
		o := newMachineOracle(program, s)
		end := ""
		for n := range 60 {
			if many, steps, ok := impl.RunMany(program, n); n < 3 && (!ok || steps != n || !sameState(many, s)) {
				t.Errorf("RunMany of %d steps of %.300q is %s behind %d, %v", n, program, shown(many), steps, ok)
			}
			ahead := clonedState(s)
			if end = o.step(); end != "" {
				break
			}
			next, ok := impl.StateStep(program, s)
			if !ok || !sameState(next, o.State) || !sameState(ahead, s) {
				t.Fatalf("StateStep of %s of %.300q is %s, %v, not %s", shown(s), program, shown(next), ok, shown(o.State))
			}
			if n%8 == k%8 {
				checkGoesOn(t, program, s, next)
			}
			s = next
		}
		stops[end]++
		switch end {
		case "done":
			checkEnds(t, program, s, haltedWord(program, s))
		case "stuck":
			checkEnds(t, program, s, "")
			if impl.CheckProgram(program) {
				t.Errorf("%.300q checks, but comes to %s", program, shown(s))
			}
		}
	}
	if stops["done"] < 200 || stops["stuck"] < 50 || stops[""] < 50 {
		t.Errorf("of the sample programs there are %v", stops)
	}
}
