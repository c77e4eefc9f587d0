package tests

import (
	"math"
	"reflect"
	"slices"
	"strconv"
	"strings"
	"testing"

	"loop.example/typedassembly/impl"
)

// checkNoState checks that all functions fail for what is no state of a program.
func checkNoState(t *testing.T, program []impl.Block, s impl.State) {
	t.Helper()
	if impl.StateValid(program, s) || impl.StateStuck(program, s) {
		t.Errorf("%s of %.300q is valid: %v, stuck: %v", shown(s), program, impl.StateValid(program, s), impl.StateStuck(program, s))
	}
	if next, ok := impl.StateStep(program, s); ok || !isZeroState(next) {
		t.Errorf("StateStep of %s is %s, %v", shown(s), shown(next), ok)
	}
	if word, ok := impl.StateDone(program, s); ok || word != "" {
		t.Errorf("StateDone of %s is %q, %v", shown(s), word, ok)
	}
	for _, word := range []string{"0", "-1", "@main", "#0", ""} {
		checkPrint(t, program, s, word, "")
	}
}

// checkPrint checks the print of a word in a state, or that there is none if it is "".
func checkPrint(t *testing.T, program []impl.Block, s impl.State, word string, want string) {
	t.Helper()
	if printed, ok := impl.StatePrint(program, s, word); ok != (want != "") || printed != want {
		t.Errorf("StatePrint of %q in %s is %q, %v, not %q", cut(word), shown(s), cut(printed), ok, cut(want))
	}
}

// checkEnds checks a state without a step: that it is done with a word, or stuck if this is "" (P65, P67 and P68).
func checkEnds(t *testing.T, program []impl.Block, s impl.State, word string) {
	t.Helper()
	if !impl.StateValid(program, s) || impl.StateStuck(program, s) != (word == "") {
		t.Errorf("%s of %.300q is valid: %v, stuck: %v", shown(s), program, impl.StateValid(program, s), impl.StateStuck(program, s))
	}
	if got, ok := impl.StateDone(program, s); ok != (word != "") || got != word {
		t.Errorf("StateDone of %s is %q, %v, not %q", shown(s), got, ok, word)
	}
	if next, ok := impl.StateStep(program, s); ok || !isZeroState(next) {
		t.Errorf("StateStep of %s is %s, %v", shown(s), shown(next), ok)
	}
	if word != "" && !slices.Contains(s.Regs, word) {
		t.Errorf("%s is done with %q", shown(s), word)
	}
}

// checkGoesOn checks the step from a state to the next one (P65 and P66).
func checkGoesOn(t *testing.T, program []impl.Block, s impl.State, want impl.State) {
	t.Helper()
	next, ok := impl.StateStep(program, s)
	if !ok || !sameState(next, want) || !impl.StateValid(program, next) {
		t.Errorf("StateStep of %s of %.300q is %s, %v, not %s", shown(s), program, shown(next), ok, shown(want))
		return
	}
	if word, ok := impl.StateDone(program, s); ok || word != "" || impl.StateStuck(program, s) || !impl.StateValid(program, s) {
		t.Errorf("%s is done with %q, stuck: %v, valid: %v", shown(s), word, impl.StateStuck(program, s), impl.StateValid(program, s))
	}
	changed := 0
	for r, word := range next.Regs {
		if word != s.Regs[r] {
			changed++
		}
	}
	tuples := len(next.Heap) - len(s.Heap)
	if changed > 1 || tuples < 0 || tuples > 1 || !slices.EqualFunc(next.Heap[:len(s.Heap)], s.Heap, slices.Equal) {
		t.Errorf("StateStep of %s changes too much: %s", shown(s), shown(next))
	}
	if next.At != 0 && (next.Label != s.Label || next.At != s.At+1) {
		t.Errorf("StateStep of %s goes on at %q, %d", shown(s), next.Label, next.At)
	}
}

// checkState checks all that is told of a state by the oracle.
func checkState(t *testing.T, program []impl.Block, s impl.State) {
	t.Helper()
	if !isState(program, s) {
		checkNoState(t, program, s)
		return
	}
	switch next, end := steppedState(program, s); end {
	case "done":
		checkEnds(t, program, s, haltedWord(program, s))
	case "stuck":
		checkEnds(t, program, s, "")
	default:
		checkGoesOn(t, program, s, next)
	}
}

func TestLimitsOfRuns(t *testing.T) {
	if impl.RunMax != 20000 || impl.FormMax != 12000 || impl.RegsMax != 40 {
		t.Errorf("the limits are %d, %d and %d", impl.RunMax, impl.FormMax, impl.RegsMax)
	}
}

// P64.
func TestStatesAtTheStart(t *testing.T) {
	for _, program := range append(machinePrograms(), sampleLists()...) {
		s, ok := impl.StateStart(program)
		many, steps, alike := impl.RunMany(program, 0)
		if !isProgram(program) {
			if ok || alike || steps != 0 || !isZeroState(s) || !isZeroState(many) {
				t.Errorf("%.300q starts with %v, %v, and comes to %v, %v", program, s, ok, many, alike)
			}
			continue
		}
		if !ok || !sameState(s, stateAt("main", 0, nil)) || !impl.StateValid(program, s) {
			t.Errorf("StateStart of %.300q is %v, %v", program, s, ok)
		}
		if !alike || steps != 0 || !sameState(many, s) {
			t.Errorf("RunMany of 0 steps of %.300q is %v behind %d, %v", program, many, steps, alike)
		}
	}
}

func stateProgram() []impl.Block {
	return coded([3]string{"main", "", "(const 0 5) (new 1 0) (get 2 1 0) (halt 2)"}, [3]string{"b", "i (t i)", "(zero 0 main) (halt 1)"}, [3]string{"b0", "", "(jump 0)"}, [3]string{strings.Repeat("z", 300), "", "(halt 0)"})
}

func TestStatesAtSomePlaces(t *testing.T) {
	program := stateProgram()
	for _, b := range program {
		for at := -3; at < len(b.Code)+3; at++ {
			s := stateAt(b.Label, at, [][]string{{"0"}}, "#0", "@b")
			if impl.StateValid(program, s) != (0 <= at && at < len(b.Code)) {
				t.Errorf("a state at %d of %q is valid: %v", at, b.Code, impl.StateValid(program, s))
			}
			checkState(t, program, s)
		}
		for _, at := range []int{math.MaxInt, math.MinInt, math.MinInt + 1, 1 << 32, -1 << 32} {
			checkNoState(t, program, stateAt(b.Label, at, nil))
		}
	}
	for _, label := range []string{"", "nowhere", "Main", "main ", " main", "mai", "mainn", "@main", "b1", "b00", "0", "z", strings.Repeat("z", 299), strings.Repeat("z", 301), "\xff"} {
		checkNoState(t, program, stateAt(label, 0, nil))
	}
}

func TestStatesWithSomeRegs(t *testing.T) {
	program := stateProgram()
	for _, n := range []int{0, 1, 2, impl.RegsMax - 1, impl.RegsMax, impl.RegsMax + 1, 2 * impl.RegsMax, 1 << 20} {
		for _, word := range []string{"", "0", "@main"} {
			s := impl.State{Label: "main", Regs: slices.Repeat([]string{word}, n)}
			if impl.StateValid(program, s) != (n == impl.RegsMax) {
				t.Errorf("a state with %d registers of %q is valid: %v", n, word, impl.StateValid(program, s))
			}
			if n != impl.RegsMax {
				checkNoState(t, program, s)
			}
		}
	}
	checkNoState(t, program, impl.State{})
	checkNoState(t, program, impl.State{Label: "main"})
}

// checkWord checks whether a text is a word in each place that can have one, with a heap of some tuples.
func checkWord(t *testing.T, tuples int, text string, want bool) {
	t.Helper()
	program := stateProgram()
	heap := slices.Repeat([][]string{{}}, tuples)
	for _, r := range []int{0, 1, 20, impl.RegsMax - 1} {
		s := stateAt("main", 0, heap)
		s.Regs[r] = text
		if impl.StateValid(program, s) != (want || text == "") {
			t.Errorf("%q in register %d with %d tuples is valid: %v", cut(text), r, tuples, impl.StateValid(program, s))
		}
	}
	for _, tuple := range [][]string{{text}, {"1", text}, {text, "@b"}, {"@main", "0", text, "0"}} {
		s := stateAt("main", 0, append(slices.Clone(heap), tuple, []string{}))
		if impl.StateValid(program, s) != want {
			t.Errorf("%.300q behind %d tuples is valid: %v", tuple, tuples, impl.StateValid(program, s))
		}
	}
	s := stateAt("main", 0, heap)
	if printed, ok := impl.StatePrint(program, s, text); ok != want || (printed != "") != want {
		t.Errorf("StatePrint of %q with %d tuples is %q, %v", cut(text), tuples, printed, ok)
	}
}

func TestWords(t *testing.T) {
	for n := -1100; n <= 1100; n++ {
		checkWord(t, n&3, strconv.Itoa(n), -999 <= n && n <= 999)
	}
	for n := range 120 {
		for _, tuples := range []int{0, 1, 2, 10, 11, 100, 101} {
			checkWord(t, tuples, "#"+strconv.Itoa(n), n < tuples)
		}
	}
	for _, b := range stateProgram() {
		checkWord(t, 1, "@"+b.Label, true)
		checkWord(t, 1, b.Label, false)
		checkWord(t, 1, "#"+b.Label, false)
		checkWord(t, 1, "@"+b.Label+"x", false)
	}
	for _, text := range append(noWords(), "") {
		checkWord(t, 0, text, false)
		checkWord(t, 3, text, false)
	}
	checkWord(t, 19998, "#19998", false)
	checkWord(t, 19998, "#19997", true)
	for b := range 256 {
		s := string([]byte{byte(b)})
		checkWord(t, 5, s, '0' <= b && b <= '9')
		checkWord(t, 5, "#"+s, '0' <= b && b <= '4')
		checkWord(t, 5, "#1"+s, false)
		checkWord(t, 5, "@"+s, b == 'b')
		checkWord(t, 5, "@b"+s, b == '0')
		checkWord(t, 5, s+"1", b == '-' || b == '#' || '1' <= b && b <= '9')
	}
}

func TestHeaps(t *testing.T) {
	cases := []struct {
		heap [][]string
		want bool
	}{
		{nil, true},
		{[][]string{}, true},
		{[][]string{{}}, true},
		{[][]string{nil, nil}, true},
		{[][]string{{""}}, false},
		{[][]string{{"0", ""}}, false},
		{[][]string{{}, {"", "0"}}, false},
		{[][]string{{"#0"}}, false},
		{[][]string{{"#1"}, {}}, false},
		{[][]string{{}, {"#0"}}, true},
		{[][]string{{}, {"#1"}}, false},
		{[][]string{{}, {"#2"}, {}}, false},
		{[][]string{{}, {"#0", "#0", "#0"}, {"#1", "#0"}}, true},
		{[][]string{{}, {"#0", "#1"}, {"#1", "#0"}}, false},
		{[][]string{{}, {"#0"}, {"#1", "#2"}}, false},
		{[][]string{{}, {"#0"}, {"#2"}, {}}, false},
		{[][]string{{}, {"#0"}, {"#3"}, {}}, false},
		{[][]string{{}, {"#-1"}}, false},
		{[][]string{{}, {"#00"}}, false},
		{[][]string{{"@main", "@b", "-999", "999"}, {"@b0", "#0"}}, true},
		{[][]string{{"@nowhere"}}, false},
		{[][]string{{"1000"}}, false},
		{[][]string{slices.Repeat([]string{"7"}, 50000)}, true},
		{[][]string{append(slices.Repeat([]string{"7"}, 50000), "")}, false},
	}
	program := stateProgram()
	for _, c := range cases {
		for _, b := range program {
			for at := range b.Code {
				s := stateAt(b.Label, at, c.heap, "0", "@b")
				if impl.StateValid(program, s) != c.want {
					t.Errorf("a state with the heap %.300q is valid: %v", c.heap, impl.StateValid(program, s))
				}
				checkState(t, program, s)
			}
		}
	}
	for _, n := range []int{impl.RunMax - 1, impl.RunMax, impl.RunMax + 1, 2 * impl.RunMax} {
		for _, tuple := range [][]string{nil, {"5"}, {"@b", "-1"}} {
			s := stateAt("main", 0, slices.Repeat([][]string{tuple}, n), "#"+strconv.Itoa(n-1))
			if impl.StateValid(program, s) != (n <= impl.RunMax) {
				t.Errorf("a state with %d tuples is valid: %v", n, impl.StateValid(program, s))
			}
			if n > impl.RunMax {
				checkNoState(t, program, s)
			}
			s.Regs[39] = "#" + strconv.Itoa(n)
			checkNoState(t, program, s)
		}
	}
}

func TestStatesOfNoProgram(t *testing.T) {
	states := []impl.State{stateAt("main", 0, nil), stateAt("main", 0, [][]string{{"1"}}, "#0", "0"), {}, {Label: "main", Regs: []string{"0"}}}
	lists := [][]impl.Block{nil, {}, {{}}, {{Label: "main"}}, {{Label: "b", Code: []string{"(halt 0)"}}}, {{Label: "main", Regs: []string{"i"}, Code: []string{"(halt 0)"}}}, {{Label: "main", Code: []string{"(const 0 1)"}}}, numbered(impl.BlocksMax + 1), append(numbered(2), numbered(2)...)}
	for _, list := range sampleLists() {
		if !isProgram(list) {
			lists = append(lists, list)
		}
	}
	for _, list := range lists {
		for _, s := range states {
			checkNoState(t, list, s)
		}
		if s, ok := impl.StateStart(list); ok || !isZeroState(s) {
			t.Errorf("StateStart of %.300q is %v", list, s)
		}
		for _, n := range []int{0, 1, 1000} {
			if printed, steps, ok := impl.Run(list, n); ok || printed != "" || steps != 0 || impl.RunStuck(list, n) {
				t.Errorf("Run of %.300q is %q, %d, %v, stuck: %v", list, printed, steps, ok, impl.RunStuck(list, n))
			}
			if s, steps, ok := impl.RunMany(list, n); ok || steps != 0 || !isZeroState(s) {
				t.Errorf("RunMany of %.300q is %v, %d, %v", list, s, steps, ok)
			}
		}
	}
}

// P65 to P68 and what a state is.
func TestStatesAgreeWithTheOracle(t *testing.T) {
	for _, s := range sampleStates() {
		before, program := clonedState(s.State), cloned(s.program)
		checkState(t, s.program, s.State)
		if !reflect.DeepEqual(before, s.State) || !reflect.DeepEqual(program, s.program) {
			t.Fatalf("the state %v or its program was changed", before)
		}
	}
}
