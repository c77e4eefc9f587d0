package tests

import (
	"reflect"
	"slices"
	"strings"
	"testing"

	"loop.example/typedassembly/impl"
)

// roomy is a program with a state at one of its instructions, whose lists have room for more behind them.
func roomy(instr string) ([]impl.Block, impl.State) {
	program, s := atInstr(instr, "5", "0", "@one", "#3", "#2")
	s.Regs = append(s.Regs, "kept", "kept")[:len(s.Regs)]
	s.Heap = append(s.Heap, []string{"kept"}, []string{"kept"})[:len(s.Heap)]
	for k, tuple := range s.Heap {
		s.Heap[k] = append(slices.Clone(tuple), "kept", "kept")[:len(tuple)]
	}
	return program, s
}

// wholeLists are all lists of words of a state, with the room behind them.
func wholeLists(s impl.State) [][]string {
	lists := [][]string{s.Regs[:cap(s.Regs)]}
	for _, tuple := range s.Heap[:cap(s.Heap)] {
		lists = append(lists, tuple[:cap(tuple)])
	}
	return lists
}

// instrsOfEachKind are instructions that have a step in the state of roomy, but the last ones that are done and stuck there.
func instrsOfEachKind() []string {
	return []string{"(const 0 7)", "(mov 0 3)", "(add 0 0 1)", "(new 0)", "(new 3 0 3 2)", "(get 3 3 0)", "(lab 0 two)", "(pack 5 3 (e v) i)", "(open 0 4)", "(zero 1 one)", "(zero 0 one)", "(jump 2)", "(halt 3)", "(jump 0)"}
}

func TestMachineChangesNoArguments(t *testing.T) {
	for _, instr := range instrsOfEachKind() {
		program, s := roomy(instr)
		blocks, words := cloned(program), wholeLists(s)
		before := make([][]string, len(words))
		for k, list := range words {
			before[k] = slices.Clone(list)
		}
		for range 2 {
			impl.StateStart(program)
			if !impl.StateValid(program, s) {
				t.Fatalf("%s is no state", shown(s))
			}
			impl.StateStep(program, s)
			impl.StateDone(program, s)
			impl.StateStuck(program, s)
			impl.StatePrint(program, s, "#3")
			impl.Run(program, 100)
			impl.RunStuck(program, 100)
			impl.RunMany(program, 100)
		}
		if !reflect.DeepEqual(words, before) || !reflect.DeepEqual(wholeLists(s), before) || !reflect.DeepEqual(program, blocks) || s.Label != "b" || s.At != 1 {
			t.Errorf("at %q the machine made its arguments %s", instr, shown(s))
		}
	}
}

// checkNewState checks that the lists of a state that is made share no memory with each other and with those of another state.
func checkNewState(t *testing.T, what string, made func() (impl.State, bool), other impl.State) {
	t.Helper()
	s, ok := made()
	if !ok {
		t.Errorf("%s fails", what)
		return
	}
	want := clonedState(s)
	for _, list := range wholeLists(other) {
		for k := range list {
			list[k] = "changed"
		}
	}
	if !sameState(s, want) {
		t.Errorf("%s shares memory with an argument", what)
	}
	for k := range wholeLists(s) {
		changed := wholeLists(s)[k]
		before := slices.Clone(changed)
		others := slices.Delete(wholeLists(s), k, k+1)
		unchanged := make([][]string, len(others))
		for n, list := range others {
			unchanged[n] = slices.Clone(list)
		}
		for n := range changed {
			changed[n] = "changed"
		}
		if !reflect.DeepEqual(others, unchanged) {
			t.Errorf("%s shares memory within its result", what)
		}
		copy(changed, before)
	}
	whole := s.Heap[:cap(s.Heap)]
	for k := range whole {
		whole[k] = []string{"changed"}
	}
	if !slices.Equal(s.Regs, want.Regs) {
		t.Errorf("%s shares its Heap with its registers", what)
	}
}

func TestMachineResultsAreNewMemory(t *testing.T) {
	for _, instr := range instrsOfEachKind() {
		program, s := roomy(instr)
		if _, end := steppedState(program, s); end == "" {
			checkNewState(t, "StateStep at "+instr, func() (impl.State, bool) { return impl.StateStep(program, s) }, s)
		}
		_, s = roomy(instr)
		checkNewState(t, "StateStart", func() (impl.State, bool) { return impl.StateStart(program) }, s)
	}
	program := coded([3]string{"main", "", "(const 0 5) (new 1 0 0) (new 2 0 1 0) (new 3) (new 4) (new 5 1 2 3) (lab 6 main) (new 7 6 5) (halt 7)"})
	many := func(n int) func() (impl.State, bool) {
		return func() (impl.State, bool) {
			s, _, ok := impl.RunMany(program, n)
			return s, ok
		}
	}
	for n := range 10 {
		other, _ := many(8)()
		checkNewState(t, "RunMany", many(n), other)
	}
	if first, _ := many(8)(); len(first.Heap) != 6 || first.Regs[7] != "#5" {
		t.Errorf("RunMany comes to %s", shown(first))
	}
}

func TestMachineResultsAreNewTexts(t *testing.T) {
	program := coded([3]string{"main", "", "(const 0 -375) (lab 1 longlabel) (new 2 0 1) (jump 1)"}, [3]string{"longlabel", "", "(new 3 0 2) (new 4 0 3 1) (halt 4)"})
	program = cloned(program)
	for k := range program {
		program[k].Label = strings.Clone(program[k].Label)
	}
	s := stateAt(strings.Clone("longlabel"), 1, [][]string{{strings.Clone("-375"), strings.Clone("@longlabel")}, {strings.Clone("#0")}}, strings.Clone("-375"), strings.Clone("@longlabel"), strings.Clone("@main"), strings.Clone("#1"))
	textsOf := func(s impl.State) []string { return append(slices.Concat(append(s.Heap, s.Regs)...), s.Label) }
	args := textsOf(clonedState(s))
	for _, b := range program {
		args = slices.Concat(args, []string{b.Label}, b.Code)
	}
	start, _ := impl.StateStart(program)
	next, ok := impl.StateStep(program, s)
	many, _, more := impl.RunMany(program, 100)
	s.At = 2
	s.Regs[4] = strings.Clone("@longlabel")
	args = append(args, s.Regs[4])
	code, done := impl.StateDone(program, s)
	printed, _ := impl.StatePrint(program, s, args[0])
	if !ok || !more || !done || code != "@longlabel" || printed != "-375" || many.Label != "longlabel" || next.Regs[4] != "#2" || len(next.Heap[2]) != 3 {
		t.Fatalf("the results are %s, %s, %q and %q", shown(next), shown(many), code, printed)
	}
	results := slices.Concat(textsOf(start), textsOf(next), textsOf(many), []string{code, printed})
	for _, result := range results {
		for _, arg := range args {
			if len(result) > 1 && len(arg) > 1 && overlaps(arg, result) {
				t.Errorf("%q shares memory with %q", result, arg)
			}
		}
	}
	parts := [][]string{textsOf(start), textsOf(next), textsOf(many), {code}, {printed}}
	for k, part := range parts {
		for _, other := range slices.Concat(parts[:k]...) {
			for _, text := range part {
				if len(text) > 3 && overlaps(other, text) {
					t.Errorf("%q of one result shares memory with %q of another", text, other)
				}
			}
		}
	}
}

func TestMachineTakesAnyText(t *testing.T) {
	program := stateProgram()
	for _, text := range append(sampleTexts()[:400], noWords()...) {
		for _, label := range []string{"main", text} {
			s := stateAt(label, 0, [][]string{{text}}, text)
			checkState(t, program, s)
			s.Heap = nil
			checkState(t, program, s)
		}
		s := stateAt("main", 0, [][]string{{"1"}})
		want := ""
		if isWord(program, 1, text) {
			want = printIn(s, text)
		}
		checkPrint(t, program, s, text, want)
		bad := []impl.Block{{Label: "main", Code: []string{text}}}
		if printed, steps, ok := impl.Run(bad, 100); ok || printed != "" || steps != 0 {
			t.Errorf("Run of %q is %q, %d, %v", cut(text), printed, steps, ok)
		}
	}
}
