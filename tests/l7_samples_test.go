package tests

import (
	"fmt"
	"math/rand"
	"reflect"
	"regexp"
	"slices"
	"strconv"
	"strings"
	"sync"
	"testing"

	"loop.example/typedassembly/impl"
)

var wordOnly = regexp.MustCompile(`^(0|-?[1-9][0-9]{0,2}|@[a-z][a-z0-9]*|#(0|[1-9][0-9]*))$`)

// isWord tells whether a text is a word where there are as many tuples as a number tells.
func isWord(program []impl.Block, tuples int, text string) bool {
	if !wordOnly.MatchString(text) {
		return false
	}
	switch text[0] {
	case '@':
		return blockOf(program, text[1:]) != nil
	case '#':
		index, err := strconv.Atoi(text[1:])
		return err == nil && index < tuples
	}
	return true
}

// blockOf is the block with a label, or nil.
func blockOf(program []impl.Block, label string) *impl.Block {
	for k := range program {
		if program[k].Label == label {
			return &program[k]
		}
	}
	return nil
}

// isState tells whether a state is one of a program.
func isState(program []impl.Block, s impl.State) bool {
	b := blockOf(program, s.Label)
	if b == nil || s.At < 0 || s.At >= len(b.Code) || len(s.Regs) != impl.RegsMax || len(s.Heap) > impl.RunMax {
		return false
	}
	for _, text := range s.Regs {
		if text != "" && !isWord(program, len(s.Heap), text) {
			return false
		}
	}
	for k, tuple := range s.Heap {
		if slices.ContainsFunc(tuple, func(text string) bool { return !isWord(program, k, text) }) {
			return false
		}
	}
	return true
}

// stateAt is a state at an instruction of a block with words in the registers from 0 on.
func stateAt(label string, at int, heap [][]string, words ...string) impl.State {
	regs := make([]string, impl.RegsMax)
	copy(regs, words)
	return impl.State{Label: label, At: at, Regs: regs, Heap: heap}
}

// clonedState is a state that shares no lists with another one.
func clonedState(s impl.State) impl.State {
	s.Regs = slices.Clone(s.Regs)
	s.Heap = slices.Clone(s.Heap)
	for k := range s.Heap {
		s.Heap[k] = slices.Clone(s.Heap[k])
	}
	return s
}

func sameState(a impl.State, b impl.State) bool {
	return a.Label == b.Label && a.At == b.At && slices.Equal(a.Regs, b.Regs) && slices.EqualFunc(a.Heap, b.Heap, slices.Equal)
}

// shown is a state that is short enough for a message.
func shown(s impl.State) string {
	return cut(fmt.Sprintf("%q, %d with %q and %q", s.Label, s.At, s.Heap, s.Regs))
}

func isZeroState(s impl.State) bool {
	return s.Label == "" && s.At == 0 && len(s.Regs) == 0 && len(s.Heap) == 0
}

// machineOracle goes from state to state, with words as texts.
type machineOracle struct {
	code map[string][][]string // the items of each instruction of the blocks
	impl.State
}

func newMachineOracle(program []impl.Block, s impl.State) *machineOracle {
	o := &machineOracle{map[string][][]string{}, clonedState(s)}
	for _, b := range program {
		for _, text := range b.Code {
			o.code[b.Label] = append(o.code[b.Label], itemsOf(text))
		}
	}
	return o
}

// step takes a step, and returns "", or else "stuck" or "done".
func (o *machineOracle) step() string {
	items := o.code[o.Label][o.At]
	words := o.wordsOf(items)
	if slices.Contains(words, "") {
		return "stuck"
	}
	switch items[0] {
	case "zero", "jump":
		return o.leave(items, words[0])
	case "halt":
		return "done"
	}
	into, _ := strconv.Atoi(items[1])
	given := o.gives(items, words)
	if given == "" {
		return "stuck"
	}
	o.Regs[into] = given
	o.At++
	return ""
}

// wordsOf are the words that an instruction takes from registers.
func (o *machineOracle) wordsOf(items []string) []string {
	from := map[string][]string{"const": nil, "lab": nil, "new": items[2:], "zero": items[1:2], "jump": items[1:], "halt": items[1:]}
	registers, ok := from[items[0]]
	if !ok {
		registers = items[2:min(len(items), 3)]
	}
	if items[0] == "add" || items[0] == "sub" || items[0] == "mul" {
		registers = items[2:]
	}
	var words []string
	for _, text := range registers {
		r, _ := strconv.Atoi(text)
		words = append(words, o.Regs[r])
	}
	return words
}

func (o *machineOracle) leave(items []string, word string) string {
	label := strings.TrimPrefix(word, "@")
	if items[0] == "zero" {
		label = items[2]
	}
	if o.code[label] == nil || items[0] == "jump" && word[0] != '@' || items[0] == "zero" && !numeralOnly.MatchString(word) {
		return "stuck"
	}
	if items[0] == "zero" && word != "0" {
		o.At++
		return ""
	}
	o.Label, o.At = label, 0
	return ""
}

// gives is the word that an instruction puts into its register, or "".
func (o *machineOracle) gives(items []string, words []string) string {
	switch items[0] {
	case "const":
		return items[2]
	case "lab":
		if o.code[items[2]] == nil {
			return ""
		}
		return "@" + items[2]
	case "mov", "pack", "open":
		return words[0]
	case "new":
		if len(o.Heap) == impl.RunMax {
			return ""
		}
		o.Heap = append(o.Heap, words)
		return "#" + strconv.Itoa(len(o.Heap)-1)
	case "get":
		k, err := strconv.Atoi(strings.TrimPrefix(words[0], "#"))
		n, _ := strconv.Atoi(items[3])
		if words[0][0] != '#' || err != nil || n >= len(o.Heap[k]) {
			return ""
		}
		return o.Heap[k][n]
	}
	return reckoned(map[string]string{"add": "+", "sub": "-", "mul": "*"}[items[0]], words[0], words[1])
}

// steppedState is the state behind a step and "", or the same one and "stuck" or "done".
func steppedState(program []impl.Block, s impl.State) (impl.State, string) {
	o := newMachineOracle(program, s)
	end := o.step()
	return o.State, end
}

// ranOf is the state behind at most n steps from the start, how many they were, and "stuck", "done" or "" for what becomes of it.
func ranOf(program []impl.Block, n int) (impl.State, int, string) {
	o := newMachineOracle(program, stateAt("main", 0, nil))
	for steps := range n {
		if end := o.step(); end != "" {
			return o.State, steps, end
		}
	}
	behind := clonedState(o.State)
	return behind, n, o.step()
}

// printsOf are the prints of the tuples of a heap, or "" for one with too many bytes, from the first one on.
func printsOf(heap [][]string) []string {
	var prints []string
	for _, tuple := range heap {
		text := "fun"
		if len(tuple) == 0 || tuple[0][0] != '@' {
			text = listOfPrints(prints, tuple)
		}
		prints = append(prints, text)
	}
	return prints
}

func listOfPrints(prints []string, tuple []string) string {
	parts := []string{"t"}
	if len(tuple) == 2 {
		parts[0] = "pair"
	}
	for _, word := range tuple {
		text := printedWord(prints, word)
		if text == "" {
			return ""
		}
		parts = append(parts, text)
	}
	text := "(" + strings.Join(parts, " ") + ")"
	if len(text) > impl.FormMax {
		return ""
	}
	return text
}

// printedWord is the print of a word, by those of the tuples, or "".
func printedWord(prints []string, word string) string {
	switch word[0] {
	case '@':
		return "fun"
	case '#':
		k, _ := strconv.Atoi(word[1:])
		return prints[k]
	}
	return word
}

// printIn is the print of a word in a state, or "".
func printIn(s impl.State, word string) string {
	return printedWord(printsOf(s.Heap), word)
}

// haltedWord is what the register has that the last instruction of a block tells.
func haltedWord(program []impl.Block, s impl.State) string {
	r, _ := strconv.Atoi(itemsOf(blockOf(program, s.Label).Code[s.At])[1])
	return s.Regs[r]
}

// coded is a program of blocks, each with its label, its types and its code in a text.
func coded(blocks ...[3]string) []impl.Block {
	var program []impl.Block
	for _, b := range blocks {
		made := impl.Block{Label: b[0], Code: itemsOf("(" + b[2] + ")")}
		if b[1] != "" {
			made.Regs = itemsOf("(" + b[1] + ")")
		}
		program = append(program, made)
	}
	return program
}

// counting counts down from a number, with as many more steps in main and in each turn as two numbers tell: it takes 5 and first steps, and 4 and each for each of the numbers.
func counting(from int, first int, each int) []impl.Block {
	pad := func(n int) string { return strings.Repeat("(mov 1 1) ", n) }
	return coded([3]string{"main", "", "(const 0 " + strconv.Itoa(from) + ") (const 1 1) " + pad(first) + "(lab 2 loop) (jump 2)"},
		[3]string{"loop", "i i", "(zero 0 end) (sub 0 0 1) " + pad(each) + "(lab 2 loop) (jump 2)"}, [3]string{"end", "i i", "(halt 0)"})
}

// growing makes a tuple again and again of twice the one before, as many times as a number tells; all of its types are hidden, so that it checks.
func growing(times int) []impl.Block {
	return coded([3]string{"main", "", "(const 0 " + strconv.Itoa(times) + ") (const 1 1) (pack 2 1 (e v) i) (lab 3 loop) (jump 3)"},
		[3]string{"loop", "i i (e v)", "(zero 0 end) (sub 0 0 1) (new 2 2 2) (pack 2 2 (e v) (t (e v) (e v))) (lab 3 loop) (jump 3)"},
		[3]string{"end", "i i (e v)", "(halt 2)"})
}

// chaining makes a tuple again and again of the one before and a 1.
func chaining(times int) []impl.Block {
	program := growing(times)
	program[1].Code = itemsOf("((zero 0 end) (sub 0 0 1) (new 2 2 1) (pack 2 2 (e v) (t (e v) i)) (lab 3 loop) (jump 3))")
	return program
}

// result is a program with what is told of it: its print and how many steps it takes.
type result struct {
	program []impl.Block
	printed string
	steps   int
}

// checkedResults are programs that check and have a result.
func checkedResults() []result {
	next := nextOf("i")
	closure := "(e (t (c v i " + next + ") v))"
	return []result{
		{coded([3]string{"main", "", "(const 0 5) (halt 0)"}), "5", 1},
		{coded([3]string{"main", "", "(new 0) (halt 0)"}), "(t)", 1},
		{coded([3]string{"main", "", "(lab 0 main) (halt 0)"}), "fun", 1},
		{coded([3]string{"main", "", "(const 0 5) (new 1 0 0) (new 2 1 0) (halt 2)"}), "(pair (pair 5 5) 5)", 3},
		{coded([3]string{"main", "", "(const 0 999) (const 1 -999) (sub 2 0 1) (mul 3 2 1) (add 4 2 3) (new 5 2 3 4) (halt 5)"}), "(t -2 -2 -4)", 6},
		{coded([3]string{"main", "", "(const 0 7) (new 1 0) (new 2 1 1 0) (get 3 2 1) (get 3 3 0) (halt 3)"}), "7", 5},
		// The program of the expression 0 (chapter 8).
		{coded([3]string{"main", "", "(new 0) (lab 1 end) (new 2 1 0) (pack 3 2 " + next + " (t)) (const 4 0) (open 5 3) (get 6 5 0) (get 7 5 1) (mov 0 7) (mov 1 4) (jump 6)"}, [3]string{"end", "(t) i", "(halt 1)"}), "0", 11},
		// A function that adds what it is closed over, called with 30.
		{coded([3]string{"main", "", "(const 0 12) (new 1 0) (lab 2 plus) (new 3 2 1) (pack 4 3 " + closure + " (t i)) (new 5) (lab 6 end) (new 7 6 5) (pack 8 7 " + next + " (t)) (const 9 30) (open 10 4) (get 11 10 0) (get 12 10 1) (mov 0 12) (mov 1 9) (mov 2 8) (jump 11)"},
			[3]string{"end", "(t) i", "(new 2 1 0) (halt 2)"},
			[3]string{"plus", "(t i) i " + next, "(get 3 0 0) (add 4 3 1) (open 5 2) (get 6 5 0) (get 7 5 1) (mov 0 7) (mov 1 4) (jump 6)"}), "(pair 42 (t))", 26},
		// Code in tuples, which jumps in circles until a number is 0.
		{coded([3]string{"main", "", "(const 0 3) (const 1 1) (lab 2 pong) (lab 3 end) (new 2 2 3) (get 3 2 0) (jump 3)"},
			[3]string{"pong", "i i", "(zero 0 end) (sub 0 0 1) (lab 2 pong) (new 3 2 2) (get 2 3 0) (jump 2)"}, [3]string{"end", "i i", "(lab 2 pong) (new 2 2 0) (new 3 2 1) (halt 3)"}), "(pair fun 1)", 29},
		{counting(0, 0, 0), "0", 5},
		{counting(1, 0, 0), "0", 9},
		{counting(499, 0, 0), "0", 5 + 4*499},
		// Down from 999 the numbers go by way of -2 and -500.
		{counting(999, 0, 0), "0", 5 + 4*999},
		{counting(-1, 0, 0), "0", 5 + 4*999},
		{counting(499, 34, 36), "0", impl.RunMax - 1},
		{counting(499, 35, 36), "0", impl.RunMax},
		{growing(0), "1", 6},
		{growing(2), "(pair (pair 1 1) (pair 1 1))", 18},
		{chaining(3), "(pair (pair (pair 1 1) 1) 1)", 24},
	}
}

// endlessPrograms never end, and check.
func endlessPrograms() [][]impl.Block {
	return [][]impl.Block{
		coded([3]string{"main", "", "(lab 0 main) (jump 0)"}),
		coded([3]string{"main", "", "(const 0 0) (zero 0 main) (halt 0)"}),
		coded([3]string{"main", "", "(const 0 0) (zero 0 other) (halt 0)"}, [3]string{"other", "", "(lab 0 main) (jump 0)"}),
		coded([3]string{"main", "", "(new 0) (lab 1 main) (jump 1)"}),
		coded([3]string{"main", "", strings.Repeat("(new 0) ", impl.CodeMax-2) + "(lab 1 main) (jump 1)"}),
	}
}

// stuck is a program that gets stuck behind some steps.
type stuck struct {
	program []impl.Block
	steps   int
}

// stuckPrograms get stuck at once, at a later step and in another block.
func stuckPrograms() []stuck {
	return []stuck{
		{coded([3]string{"main", "", "(halt 0)"}), 0},
		{coded([3]string{"main", "", "(jump 0)"}), 0},
		{coded([3]string{"main", "", "(mov 0 0) (halt 0)"}), 0},
		{coded([3]string{"main", "", "(lab 0 none) (halt 0)"}), 0},
		{coded([3]string{"main", "", "(const 0 5) (get 1 0 0) (halt 1)"}), 1},
		{coded([3]string{"main", "", "(const 0 5) (jump 0)"}), 1},
		{coded([3]string{"main", "", "(const 0 5) (halt 1)"}), 1},
		{coded([3]string{"main", "", "(const 0 5) (zero 0 none) (halt 0)"}), 1},
		{coded([3]string{"main", "", "(const 0 5) (new 1 0) (get 2 1 0) (get 2 1 1) (halt 2)"}), 3},
		{coded([3]string{"main", "", "(lab 0 b) (jump 0)"}, [3]string{"b", "", "(const 1 1) (add 2 0 1) (halt 2)"}), 3},
		{coded([3]string{"main", "", "(lab 0 b) (jump 0)"}, [3]string{"b", "i", "(const 1 0) (zero 1 d) (halt 1)"}, [3]string{"d", "", "(halt 2)"}), 4},
		// Each turn of the loop goes into a tuple, until there is none within.
		{coded([3]string{"main", "", "(const 0 5) (new 0 0) (new 0 0) (new 0 0) (lab 1 b) (jump 1)"}, [3]string{"b", "(t i)", "(get 0 0 0) (lab 1 b) (jump 1)"}), 6 + 3*3},
		{coded([3]string{"main", "", "(const 0 499) (lab 1 b) (jump 1)"}, [3]string{"b", "i", "(const 1 1) (sub 0 0 1) (zero 0 none) (lab 1 b) (jump 1)"}), 5},
	}
}

// randomWords are those that a state of a program can have, with as many tuples as a number tells, and a text for none.
func randomWords(r *rand.Rand, program []impl.Block, tuples int) []string {
	words := []string{"", "0", strconv.Itoa(r.Intn(1999) - 999), "@" + program[r.Intn(len(program))].Label}
	if tuples > 0 {
		words = append(words, "#"+strconv.Itoa(r.Intn(tuples)), "#"+strconv.Itoa(r.Intn(tuples)))
	}
	return words
}

// randomState is a state of a program, whether it comes to it or not.
func randomState(r *rand.Rand, program []impl.Block) impl.State {
	b := program[r.Intn(len(program))]
	s := stateAt(b.Label, r.Intn(len(b.Code)), nil)
	for k := range r.Intn(7) {
		var tuple []string
		for range r.Intn(4) {
			words := randomWords(r, program, k)[1:]
			tuple = append(tuple, words[r.Intn(len(words))])
		}
		s.Heap = append(s.Heap, tuple)
	}
	for k := range s.Regs {
		words := randomWords(r, program, len(s.Heap))
		s.Regs[k] = words[r.Intn(len(words))]
	}
	return s
}

// noWords are texts that are no words of the programs of the tests, whatever the heap; the empty one is for registers without one.
func noWords() []string {
	return []string{
		"@", "#", "@@main", "##0", "@#0", "#@main", "@nowhere", "@Main", "@main ", " @main", "@mai", "@mainn", "@0", "@(main)", "@main\x00", "main", "@é", "@-", "@b-0",
		"#00", "#-1", "#-0", "#+0", "# 0", "# 1", "#0 ", "#01", "#0x0", "#1e0", "#a", "#20000", "#99999", "#18446744073709551616", "#-18446744073709551616", "#0\n", "#0_0", "#٠",
		"00", "-0", "+1", "01", "-01", "1000", "-1000", "0999", "9999", "1e2", "0x1", "1 ", " 1", "--1", "-", "1.0", "1_0", "99999999999999999999", " ", "a", "v", "i", "(t)", "fun", "\xff", "\x00",
		strings.Repeat("1", 1<<16), "#" + strings.Repeat("1", 1<<16), "@" + strings.Repeat("m", 1<<16),
	}
}

// spoiledState is a state with one thing changed, so that most often it is none.
func spoiledState(r *rand.Rand, program []impl.Block, s impl.State) impl.State {
	s = clonedState(s)
	wrong := append(noWords(), "", "#"+strconv.Itoa(len(s.Heap)), "#0", "1")
	word := wrong[r.Intn(len(wrong))]
	switch r.Intn(6) {
	case 0:
		s.Label = []string{"", "nowhere", "Main", "main", s.Label + "x"}[r.Intn(5)]
	case 1:
		s.At = []int{-1, len(blockOf(program, s.Label).Code), s.At + 1, 1 << 40, -1 << 63}[r.Intn(5)]
	case 2:
		s.Regs = append(s.Regs, "")[:[]int{0, 39, 41}[r.Intn(3)]]
	case 3:
		s.Regs[r.Intn(len(s.Regs))] = word
	default:
		if len(s.Heap) > 0 {
			k := r.Intn(len(s.Heap))
			s.Heap[k] = append(s.Heap[k], []string{word, "#" + strconv.Itoa(k), "#" + strconv.Itoa(k-1)}[r.Intn(3)])
		}
	}
	return s
}

// stateOf is a state of a program.
type stateOf struct {
	program []impl.Block
	impl.State
}

// sampleStates are states and what is nearly some.
func sampleStates() []stateOf {
	return slices.Clone(onceStates())
}

var onceStates = sync.OnceValue(func() []stateOf {
	var states []stateOf
	r := rand.New(rand.NewSource(31))
	fixed := fixedPrograms()
	for k, program := range machinePrograms() {
		n := 4
		if k < len(fixed) {
			n = 20
		}
		for range n {
			s := randomState(r, program)
			states = append(states, stateOf{program, s}, stateOf{program, spoiledState(r, program, s)})
		}
		behind, _, _ := ranOf(program, r.Intn(60))
		states = append(states, stateOf{program, behind})
	}
	return states
})

// machinePrograms are the fixed programs of this stage and the samples of the one before.
func machinePrograms() [][]impl.Block {
	return slices.Concat(fixedPrograms(), samplePrograms())
}

func fixedPrograms() [][]impl.Block {
	programs := append(endlessPrograms(), coded([3]string{"main", "", strings.Repeat("(lab 0 none) (zero 1 none) (lab 2 main) (zero 3 main) (get 4 5 0) (get 6 7 2) ", 8) + "(halt 0)"}))
	for _, c := range checkedResults() {
		programs = append(programs, c.program)
	}
	for _, c := range stuckPrograms() {
		programs = append(programs, c.program)
	}
	return programs
}

func TestOracleKnowsStates(t *testing.T) {
	program := coded([3]string{"main", "", "(const 0 5) (new 1 0 0) (lab 2 b) (jump 2)"}, [3]string{"b", "i", "(get 0 1 1) (zero 0 main) (halt 1)"})
	ways := [][2]string{{"main", "0"}, {"main", "1"}, {"main", "2"}, {"main", "3"}, {"b", "0"}, {"b", "1"}, {"b", "2"}}
	for n, way := range ways {
		s, steps, end := ranOf(program, n)
		if !isState(program, s) || steps != n || s.Label != way[0] || strconv.Itoa(s.At) != way[1] || (end == "done") != (n == 6) {
			t.Errorf("behind %d steps the oracle is at %v, %q", steps, s, end)
		}
	}
	s, steps, end := ranOf(program, 100)
	want := stateAt("b", 2, [][]string{{"5", "5"}}, "5", "#0", "@b")
	if !sameState(s, want) || steps != 6 || end != "done" || haltedWord(program, s) != "#0" || printIn(s, "#0") != "(pair 5 5)" {
		t.Errorf("the oracle comes to %v behind %d steps, %q", s, steps, end)
	}
	for _, word := range noWords() {
		if isWord(program, 1000, word) {
			t.Errorf("the oracle takes %q for a word", cut(word))
		}
	}
	ends := map[string]int{}
	for _, s := range sampleStates() {
		end := "no state"
		if isState(s.program, s.State) {
			next, why := steppedState(s.program, s.State)
			if why == "" && !isState(s.program, next) || why != "" && !reflect.DeepEqual(next, s.State) {
				t.Errorf("the oracle makes %v of %v, %q", next, s.State, why)
			}
			end = why + " " + itemsOf(blockOf(s.program, s.Label).Code[s.At])[0]
		}
		ends[end]++
	}
	for _, head := range []string{"mov", "add", "sub", "mul", "new", "get", "lab", "pack", "open", "zero", "jump"} {
		if ends[" "+head] < 10 || ends["stuck "+head] < 10 {
			t.Errorf("of the sample states at %s %d have a step and %d are stuck", head, ends[" "+head], ends["stuck "+head])
		}
	}
	if ends[" const"] < 20 || ends["done halt"] < 20 || ends["stuck halt"] < 20 || ends["no state"] < 1000 {
		t.Errorf("of the sample states there are %v", ends)
	}
}
