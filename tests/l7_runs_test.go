package tests

import (
	"math"
	"math/rand"
	"slices"
	"strconv"
	"strings"
	"testing"

	"loop.example/typedassembly/impl"
)

// checkRun checks what a run returns, or that it fails if the print is "", and whether it gets stuck.
func checkRun(t *testing.T, program []impl.Block, fuel int, want string, steps int, stuck bool) {
	t.Helper()
	if printed, took, ok := impl.Run(program, fuel); ok != (want != "") || printed != want || took != steps {
		t.Errorf("Run of %.300q with %d is %q, %d, %v, not %q, %d", program, fuel, cut(printed), took, ok, cut(want), steps)
	}
	if impl.RunStuck(program, fuel) != stuck {
		t.Errorf("RunStuck of %.300q with %d is %v", program, fuel, !stuck)
	}
}

// noFuels are numbers that are no fuel of a run.
func noFuels() []int {
	return []int{-1, -2, -impl.RunMax, impl.RunMax + 1, 2 * impl.RunMax, 1 << 32, -1 << 32, math.MaxInt, math.MinInt, math.MinInt + 1}
}

// somePlaces are numbers from 0 to another one.
func somePlaces(most int) []int {
	places := []int{0, 1, 2, most / 3, most / 2, most - 1, most}
	return slices.DeleteFunc(places, func(n int) bool { return n < 0 || n > most })
}

// checkResult checks a program that is done behind some steps, with each kind of fuel (P70).
func checkResult(t *testing.T, c result) {
	t.Helper()
	for _, fuel := range somePlaces(c.steps - 1) {
		checkRun(t, c.program, fuel, "", 0, false)
	}
	for _, fuel := range []int{c.steps, c.steps + 1, 2*c.steps + 1, impl.RunMax - 1, impl.RunMax} {
		if c.steps <= fuel && fuel <= impl.RunMax {
			checkRun(t, c.program, fuel, c.printed, c.steps, false)
		}
	}
	for _, fuel := range noFuels() {
		checkRun(t, c.program, fuel, "", 0, false)
	}
	if c.steps <= 1000 {
		s, steps, ok := impl.RunMany(c.program, c.steps)
		if !ok || steps != c.steps {
			t.Errorf("RunMany of %.300q is %s behind %d, %v", c.program, shown(s), steps, ok)
		}
		word, ok := impl.StateDone(c.program, s)
		if !ok {
			t.Errorf("RunMany of %.300q comes to %s", c.program, shown(s))
			return
		}
		checkPrint(t, c.program, s, word, c.printed)
		checkMany(t, c.program, c.steps+1, s, c.steps)
		checkMany(t, c.program, 1000, s, c.steps)
	}
}

// checkMany checks what RunMany returns.
func checkMany(t *testing.T, program []impl.Block, n int, want impl.State, behind int) {
	t.Helper()
	if n > 1000 {
		return
	}
	if s, steps, ok := impl.RunMany(program, n); !ok || steps != behind || !sameState(s, want) {
		t.Errorf("RunMany of %d steps of %.300q is %s behind %d, %v, not %s behind %d", n, program, shown(s), steps, ok, shown(want), behind)
	}
}

// P63 and P70.
func TestRunsWithAResult(t *testing.T) {
	for _, c := range checkedResults() {
		if !isProgram(c.program) || !impl.CheckProgram(c.program) {
			t.Errorf("%.300q does not check", c.program)
		}
		checkResult(t, c)
	}
	// Those that do not check can have a result, too.
	checkResult(t, result{coded([3]string{"main", "", "(const 0 0) (const 1 7) (zero 0 b) (get 2 1 0) (halt 2)"}, [3]string{"b", "(t) i i", "(halt 1)"}), "7", 3})
	checkResult(t, result{coded([3]string{"main", "", "(const 0 5) (lab 1 b) (jump 1)"}, [3]string{"b", "(t)", "(pack 1 0 (e (t v)) i) (open 1 1) (halt 1)"}), "5", 5})
	checkResult(t, result{coded([3]string{"main", "", "(const 0 1) (zero 0 b) (halt 0)"}, [3]string{"b", "i", "(halt 39)"}), "1", 2})
	// Just RunMax steps, and 1 more.
	checkRun(t, counting(499, 35, 36), impl.RunMax, "0", impl.RunMax, false)
	checkRun(t, counting(499, 36, 36), impl.RunMax, "", 0, false)
	checkRun(t, counting(499, 35, 36), impl.RunMax-1, "", 0, false)
}

func TestRunsWithoutAnEnd(t *testing.T) {
	for _, program := range endlessPrograms() {
		if !impl.CheckProgram(program) {
			t.Errorf("%.300q does not check", program)
		}
		for _, fuel := range append(noFuels(), somePlaces(impl.RunMax)...) {
			checkRun(t, program, fuel, "", 0, false)
		}
		for _, n := range []int{0, 1, 5, 999, 1000} {
			want, steps, _ := ranOf(program, n)
			checkMany(t, program, n, want, steps)
			if steps != n {
				t.Errorf("%.300q ends behind %d steps", program, steps)
			}
		}
	}
	// What does not check can go on without an end, too.
	checkRun(t, coded([3]string{"main", "", "(lab 0 b) (jump 0)"}, [3]string{"b", "i", "(jump 0)"}), impl.RunMax, "", 0, false)
}

// A heap of as many tuples as there can be, each one as wide as there can be.
func TestRunsWithWideTuples(t *testing.T) {
	wide := "(new 1" + strings.Repeat(" 0", (impl.FormMax-len("(new 1)"))/2) + ") "
	program := coded([3]string{"main", "", "(const 0 5) " + strings.Repeat(wide, impl.CodeMax-3) + "(lab 1 main) (jump 1)"})
	checkRun(t, program, impl.RunMax, "", 0, false)
	s, steps, ok := impl.RunMany(program, 100)
	if !ok || steps != 100 || len(s.Heap) != 96 || len(s.Heap[95]) != 5996 || s.Heap[95][5995] != "5" || s.Regs[1] != "#95" {
		t.Errorf("RunMany of 100 steps is %s behind %d, %v", shown(s), steps, ok)
	}
	long := strings.Repeat("z", impl.FormMax-len("(lab 0 )"))
	program = coded([3]string{"main", "", "(lab 0 " + long + ") " + wide + "(jump 0)"}, [3]string{long, "", wide + "(jump 0)"})
	s, steps, ok = impl.RunMany(program, 1000)
	if !ok || steps != 1000 || len(s.Heap) != 500 || s.Label != long || s.Regs[0] != "@"+long || s.Heap[499][5995] != "@"+long {
		t.Errorf("RunMany of 1000 steps with a long label is behind %d, %v, with %d tuples", steps, ok, len(s.Heap))
	}
}

// P71.
func TestRunsThatGetStuck(t *testing.T) {
	for _, c := range stuckPrograms() {
		if !isProgram(c.program) || impl.CheckProgram(c.program) {
			t.Errorf("%.300q checks", c.program)
		}
		for _, fuel := range somePlaces(c.steps - 1) {
			checkRun(t, c.program, fuel, "", 0, false)
		}
		for _, fuel := range []int{c.steps, c.steps + 1, c.steps + 2, 500, impl.RunMax - 1, impl.RunMax} {
			checkRun(t, c.program, fuel, "", 0, true)
		}
		for _, fuel := range noFuels() {
			checkRun(t, c.program, fuel, "", 0, false)
		}
		want, steps, end := ranOf(c.program, impl.RunMax)
		if steps != c.steps || end != "stuck" {
			t.Errorf("the oracle runs %.300q for %d steps, to %q", c.program, steps, end)
		}
		checkMany(t, c.program, 1000, want, c.steps)
		checkMany(t, c.program, c.steps, want, c.steps)
		checkEnds(t, c.program, want, "")
	}
}

// What is too long to be printed fails, but it is not stuck.
func TestRunsWithLongPrints(t *testing.T) {
	for times := range 16 {
		for _, program := range [][]impl.Block{growing(times), chaining(60 * times)} {
			if !impl.CheckProgram(program) {
				t.Errorf("%.300q does not check", program)
			}
			s, steps, end := ranOf(program, impl.RunMax)
			want := printIn(s, haltedWord(program, s))
			if end != "done" {
				t.Errorf("%.300q comes to %q", program, end)
			}
			took := steps
			if want == "" {
				took = 0
			}
			checkRun(t, program, impl.RunMax, want, took, false)
			checkRun(t, program, steps, want, took, false)
			checkRun(t, program, steps-1, "", 0, false)
			if done, ok := impl.StateDone(program, s); !ok || done != s.Regs[2] {
				t.Errorf("StateDone of %s is %q, %v", shown(s), done, ok)
			}
		}
	}
	for _, times := range []int{64, 300, 999} {
		checkRun(t, growing(times), impl.RunMax, "", 0, false)
	}
	wide := func(words int) []impl.Block {
		return coded([3]string{"main", "", "(const 0 7) (const 1 10) (new 2" + strings.Repeat(" 0", 5000) + ") (new 2 2 1" + strings.Repeat(" 0", words) + ") (halt 2)"})
	}
	for _, n := range []int{0, 994, 995, 996, 2000} {
		want := "(t (t" + strings.Repeat(" 7", 5000) + ") 10" + strings.Repeat(" 7", n) + ")"
		if n == 0 {
			want = "(pair" + strings.TrimPrefix(want, "(t")
		}
		if (len(want) <= impl.FormMax) != (n <= 995) {
			t.Fatalf("the print of %d more words has %d bytes", n, len(want))
		}
		if n <= 995 {
			checkRun(t, wide(n), 4, want, 4, false)
		} else {
			checkRun(t, wide(n), 4, "", 0, false)
		}
	}
}

// P72.
func TestRunsOfManySteps(t *testing.T) {
	for _, program := range [][]impl.Block{counting(499, 0, 0), counting(200, 0, 0), endlessPrograms()[3], growing(10), stuckPrograms()[9].program, numbered(2)} {
		for _, n := range []int{-1, -2, -1000, 1001, 1002, 2000, impl.RunMax, 1 << 32, math.MaxInt, math.MinInt} {
			if s, steps, ok := impl.RunMany(program, n); ok || steps != 0 || !isZeroState(s) {
				t.Errorf("RunMany of %d steps is %s behind %d, %v", n, shown(s), steps, ok)
			}
		}
		o := newMachineOracle(program, stateAt("main", 0, nil))
		behind, ended := 0, false
		for n := range 1001 {
			if n%7 == 0 || n > 990 || n < 20 {
				checkMany(t, program, n, o.State, behind)
			}
			ended = ended || o.step() != ""
			if !ended {
				behind++
			}
		}
	}
}

// P63 and P70 to P72: what runs come to, and what checks is never stuck.
func TestRunsAgreeWithTheOracle(t *testing.T) {
	r := rand.New(rand.NewSource(33))
	ends := map[string]int{}
	for _, program := range machinePrograms() {
		s, steps, end := ranOf(program, 2000)
		checks := impl.CheckProgram(program)
		ends[strconv.FormatBool(checks)+" "+end]++
		want, took := "", 0
		if end == "done" {
			want, took = printIn(s, haltedWord(program, s)), steps
		}
		if end == "stuck" && checks || checks && impl.RunStuck(program, impl.RunMax) {
			t.Errorf("%.300q checks, and gets stuck", program)
		}
		checkRun(t, program, 2000, want, took, end == "stuck")
		if end != "" {
			checkRun(t, program, impl.RunMax, want, took, end == "stuck")
			checkRun(t, program, steps, want, took, end == "stuck")
			checkRun(t, program, steps-1, "", 0, false)
		}
		n := r.Intn(1001)
		state, behind, _ := ranOf(program, n)
		checkMany(t, program, n, state, behind)
		next, more, ok := impl.RunMany(program, behind+1)
		if behind == 1000 {
			continue
		}
		step, goes := impl.StateStep(program, state)
		if !ok || goes && (more != behind+1 || !sameState(next, step)) || !goes && (more != behind || !sameState(next, state)) {
			t.Errorf("RunMany of %d steps of %.300q is %s, %v", behind+1, program, shown(next), ok)
		}
	}
	if ends["true done"] < 100 || ends["true "] < 50 || ends["false done"] < 50 || ends["false stuck"] < 50 || ends["true stuck"] > 0 {
		t.Errorf("of the sample programs there are %v", ends)
	}
}
