package tests

import (
	"math/rand"
	"regexp"
	"slices"
	"strconv"
	"strings"
	"sync"
	"testing"

	"loop.example/typedassembly/impl"
)

// wholeText is what a program has as its text, whether it is a form or not.
func wholeText(program []impl.Block) string {
	var blocks []string
	for _, b := range program {
		blocks = append(blocks, asList("block", []string{b.Label, asList("regs", b.Regs), asList("code", b.Code)}))
	}
	return asList("program", blocks)
}

// textOfProgram is the text of a program, or "".
func textOfProgram(program []impl.Block) string {
	if text := wholeText(program); isProgram(program) && isForm(text) {
		return text
	}
	return ""
}

func isListOf(text string, head string) bool {
	return strings.HasPrefix(text, "("+head+" ") || text == "("+head+")"
}

// programOfText is the program with a text, or nil.
func programOfText(text string) []impl.Block {
	if !isForm(text) || !isListOf(text, "program") {
		return nil
	}
	var program []impl.Block
	for _, block := range itemsOf(text)[1:] {
		if !isListOf(block, "block") {
			return nil
		}
		items := itemsOf(block)
		if len(items) != 4 || !isListOf(items[2], "regs") || !isListOf(items[3], "code") {
			return nil
		}
		program = append(program, impl.Block{Label: items[1], Regs: itemsOf(items[2])[1:], Code: itemsOf(items[3])[1:]})
	}
	if !isProgram(program) {
		return nil
	}
	return program
}

func isChecked(program []impl.Block) bool {
	if !isProgram(program) {
		return false
	}
	for k, b := range program {
		if len(checkedOf(program, k)) <= len(b.Code) {
			return false
		}
	}
	return true
}

var namesLabel = regexp.MustCompile(`^(\((?:lab|zero) [0-9]+ )(.*)\)$`)

// namedBy are the labels that a block names, each one as often as it does.
func namedBy(b impl.Block) []string {
	var labels []string
	for _, text := range b.Code {
		if found := namesLabel.FindStringSubmatch(text); found != nil {
			labels = append(labels, found[2])
		}
	}
	return labels
}

func namedIn(program []impl.Block) []string {
	var labels []string
	for _, b := range program {
		labels = append(labels, namedBy(b)...)
	}
	return firstAtoms(labels)
}

func labelsOf(program []impl.Block) []string {
	var labels []string
	for _, b := range program {
		labels = append(labels, b.Label)
	}
	return labels
}

func wantedIn(program []impl.Block) []string {
	return slices.DeleteFunc(namedIn(program), func(label string) bool { return slices.Contains(labelsOf(program), label) })
}

// trimmedOf are the blocks that are reached, by going over all blocks as often as there are blocks.
func trimmedOf(program []impl.Block) []impl.Block {
	known := []string{"main"}
	for range program {
		for _, b := range program {
			if slices.Contains(known, b.Label) {
				known = firstAtoms(append(known, namedBy(b)...))
			}
		}
	}
	return slices.DeleteFunc(cloned(program), func(b impl.Block) bool { return !slices.Contains(known, b.Label) })
}

// asksFor tells whether an instruction asks a register, when the registers have some types ahead of it.
func asksFor(program []impl.Block, text string, regs regTypes, r string) bool {
	items := itemsOf(text)
	number, _ := strconv.Atoi(r)
	switch items[0] {
	case "const", "lab":
		return false
	case "zero":
		return items[1] == r || number < len(blockOf(program, items[2]).Regs)
	case "jump":
		return items[1] == r || number < len(itemsOf(regs[items[1]]))-1
	case "halt":
		return items[1] == r
	case "get", "pack":
		return items[2] == r
	}
	return slices.Contains(items[2:], r)
}

// idleIn are the indexes of the instructions of a block that are idle, and whether it checks: from each one on it is looked for what asks its register.
func idleIn(program []impl.Block, k int) ([]int, bool) {
	code := program[k].Code
	all := checkedOf(program, k)
	if len(all) <= len(code) {
		return nil, false
	}
	var idle []int
	for at, text := range code[:len(code)-1] {
		r := itemsOf(text)[1]
		asked := false
		for next := at + 1; next < len(code) && !asked; next++ {
			asked = asksFor(program, code[next], all[next], r)
			if items := itemsOf(code[next]); items[0] != "zero" && items[1] == r {
				break
			}
		}
		if !asked && itemsOf(text)[0] != "zero" {
			idle = append(idle, at)
		}
	}
	return idle, true
}

// thinnedOf is a program without idle instructions, or nil: the first one is left out, and all is checked anew, until there is none.
func thinnedOf(program []impl.Block) []impl.Block {
	if !isChecked(program) {
		return nil
	}
	thin := cloned(program)
	for k := range thin {
		for idle, _ := idleIn(thin, k); len(idle) > 0; idle, _ = idleIn(thin, k) {
			thin[k].Code = slices.Delete(thin[k].Code, idle[0], idle[0]+1)
		}
	}
	return thin
}

// renamedOf is a program with a label as another one, or nil.
func renamedOf(program []impl.Block, label string, other string) []impl.Block {
	known := append(labelsOf(program), namedIn(program)...)
	if !isProgram(program) || label == "main" || !slices.Contains(labelsOf(program), label) || slices.Contains(known, other) {
		return nil
	}
	renamed := cloned(program)
	for k, b := range renamed {
		if b.Label == label {
			renamed[k].Label = other
		}
		for i, text := range b.Code {
			if found := namesLabel.FindStringSubmatch(text); found != nil && found[2] == label {
				b.Code[i] = found[1] + other + ")"
			}
		}
	}
	if !isProgram(renamed) {
		return nil
	}
	return renamed
}

// linkedOf are the blocks of two programs but the main of the second one, or nil.
func linkedOf(a []impl.Block, b []impl.Block) []impl.Block {
	if !isProgram(a) || !isProgram(b) {
		return nil
	}
	linked := append(cloned(a), cloned(b)[1:]...)
	if !isProgram(linked) {
		return nil
	}
	return linked
}

// sizeOfProgram is the number of its instructions, or -1.
func sizeOfProgram(program []impl.Block) int {
	if !isProgram(program) {
		return -1
	}
	size := 0
	for _, b := range program {
		size += len(b.Code)
	}
	return size
}

// checkMade checks a program that a function makes, or that it fails if what it is to make is nil.
func checkMade(t *testing.T, what string, made []impl.Block, ok bool, want []impl.Block) {
	t.Helper()
	if ok != (want != nil) || !sameProgram(made, want) {
		t.Errorf("%s is %v:\n%.1000s\nnot:\n%.1000s", cut(what), ok, listed(made), listed(want))
	}
}

// checkLabels checks labels that a function tells, or that it fails.
func checkLabels(t *testing.T, what string, labels []string, ok bool, want []string, fine bool) {
	t.Helper()
	if ok != fine || !slices.Equal(labels, want) {
		t.Errorf("%s tells %.300q, %v, not %.300q", cut(what), labels, ok, want)
	}
}

// checkIdle checks which instructions of a block are idle, or that BlockIdle fails.
func checkIdle(t *testing.T, program []impl.Block, k int, want []int, fine bool) {
	t.Helper()
	if idle, ok := impl.BlockIdle(program, k); ok != fine || !slices.Equal(idle, want) {
		t.Errorf("BlockIdle of block %d of\n%.1000s\nis %v, %v, not %v", k, listed(program), idle, ok, want)
	}
}

// sampleLoadings are programs of one and of several blocks, with labels without blocks, blocks that are not reached, and idle instructions.
func sampleLoadings() [][]impl.Block {
	return slices.Clone(onceLoadings())
}

var onceLoadings = sync.OnceValue(func() [][]impl.Block {
	programs := machinePrograms()
	for k, program := range programs {
		if k%2 == 0 {
			programs = append(programs, program[:1+k/2%len(program)])
		}
	}
	for k, text := range sampleCompilings() {
		if program := compiledOf(text); program != nil && k%5 == 0 {
			programs = append(programs, program, program[:len(program)-1])
		}
	}
	for k := range 400 {
		programs = append(programs, namingProgram(rand.New(rand.NewSource(int64(50+k)))))
	}
	return programs
})

// sampleChecked are those of the sample programs that check.
func sampleChecked() [][]impl.Block {
	return slices.Clone(onceChecked())
}

var onceChecked = sync.OnceValue(func() [][]impl.Block {
	return slices.DeleteFunc(sampleLoadings(), func(program []impl.Block) bool { return !isChecked(program) })
})

// namingProgram is a program whose blocks without Regs name each other and labels without blocks, and which checks if there are none of these.
func namingProgram(r *rand.Rand) []impl.Block {
	labels := []string{"main", "i", "v", "lab", "a0", "block", "x9", "end"}[:2+r.Intn(7)]
	var program []impl.Block
	for _, label := range labels {
		if label != "main" && r.Intn(5) == 0 && r.Intn(2) == 0 {
			continue
		}
		code := []string{"(const 0 " + strconv.Itoa(r.Intn(3)) + ")"}
		for range r.Intn(4) {
			other := labels[r.Intn(len(labels))]
			code = append(code, []string{"(lab " + strconv.Itoa(r.Intn(4)+1) + " " + other + ")", "(zero 0 " + other + ")", "(const 0 0)"}[r.Intn(3)])
		}
		last := []string{"(halt 0)"}
		if next := labels[r.Intn(len(labels))]; r.Intn(2) == 0 {
			last = []string{"(lab 5 " + next + ")", "(jump 5)"}
		}
		program = append(program, impl.Block{Label: label, Code: append(code, last...)})
	}
	return program
}

func TestOracleKnowsPrograms(t *testing.T) {
	program := coded([3]string{"main", "", "(lab 0 z) (const 1 2) (zero 1 none) (mov 1 1) (halt 0)"}, [3]string{"x", "i (t)", "(zero 0 x) (lab 2 y) (halt 0)"}, [3]string{"z", "", "(lab 0 main) (jump 0)"})
	text := "(program (block main (regs) (code (lab 0 z) (const 1 2) (zero 1 none) (mov 1 1) (halt 0))) (block x (regs i (t)) (code (zero 0 x) (lab 2 y) (halt 0))) (block z (regs) (code (lab 0 main) (jump 0))))"
	if textOfProgram(program) != text || !sameProgram(programOfText(text), program) || isChecked(program) {
		t.Errorf("the oracle has the text %q", textOfProgram(program))
	}
	if names, wants := namedIn(program), wantedIn(program); !slices.Equal(names, []string{"z", "none", "x", "y", "main"}) || !slices.Equal(wants, []string{"none", "y"}) {
		t.Errorf("the oracle tells the names %q and %q", names, wants)
	}
	if labels := labelsOf(trimmedOf(program)); !slices.Equal(labels, []string{"main", "z"}) {
		t.Errorf("the oracle reaches %q", labels)
	}
	linked := linkedOf(program, coded([3]string{"main", "", "(halt 0)"}, [3]string{"none", "(c)", "(halt 0)"}, [3]string{"y", "i", "(const 1 2) (new 2 1) (halt 0)"}))
	if !isChecked(linked) || len(linked) != 5 || sizeOfProgram(linked) != 14 {
		t.Errorf("the oracle links\n%s", listed(linked))
	}
	for k, want := range [][]int{{3}, {1}, nil, nil, {1}} {
		if idle, ok := idleIn(linked, k); !ok || !slices.Equal(idle, want) {
			t.Errorf("the oracle finds %v idle in block %d", idle, k)
		}
	}
	if thin := thinnedOf(linked); sizeOfProgram(thin) != 10 || len(thin[4].Code) != 1 {
		t.Errorf("the oracle thins to\n%s", listed(thin))
	}
	if renamed := renamedOf(program, "x", "lab"); listed(renamed) != "main : (lab 0 z) (const 1 2) (zero 1 none) (mov 1 1) (halt 0)\nlab i (t): (zero 0 lab) (lab 2 y) (halt 0)\nz : (lab 0 main) (jump 0)" {
		t.Errorf("the oracle renames to\n%s", listed(renamed))
	}
	counts := map[string]int{}
	for _, program := range sampleLoadings() {
		mark := func(what string, is bool) {
			if is {
				counts[what]++
			}
		}
		mark("programs", isProgram(program))
		mark("wanting", len(wantedIn(program)) > 0)
		mark("reached", len(trimmedOf(program)) > 2)
		mark("not reached", len(trimmedOf(program)) < len(program))
		mark("long", textOfProgram(program) == "")
	}
	for _, program := range sampleChecked() {
		counts["checked"]++
		idle := 0
		for k := range program {
			some, _ := idleIn(program, k)
			idle += len(some)
		}
		if size := sizeOfProgram(thinnedOf(program)); size < sizeOfProgram(program)-idle {
			counts["again"]++
		}
	}
	for what, least := range map[string]int{"programs": len(sampleLoadings()), "wanting": 400, "reached": 400, "not reached": 400, "checked": 700, "again": 200} {
		if counts[what] < least {
			t.Errorf("the samples have just %d of %q", counts[what], what)
		}
	}
}
