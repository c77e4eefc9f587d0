package tests

import (
	"math/rand"
	"reflect"
	"slices"
	"strings"
	"testing"

	"loop.example/typedassembly/impl"
)

// roomyProgram is a program that checks, with blocks that are not reached and idle instructions, whose lists have room for more behind them. Its texts are of its own.
func roomyProgram() []impl.Block {
	program := coded([3]string{"main", "", "(const 0 5) (const 10 15) (lab 11 bb) (zero 0 bb) (jump 11)"}, [3]string{"bb", "i", "(pack 11 0 (e v) i) (halt 0)"}, [3]string{"dd", "i (t i)", "(lab 12 dd) (new 12 0 0) (halt 12)"})
	for k, b := range program {
		program[k].Label = strings.Clone(b.Label)
		program[k].Regs = withRoom(b.Regs)
		program[k].Code = withRoom(b.Code)
	}
	return append(program, impl.Block{Label: "kept", Regs: []string{"kept"}, Code: []string{"kept"}})[:3]
}

func withRoom(texts []string) []string {
	var own []string
	for _, text := range texts {
		own = append(own, strings.Clone(text))
	}
	return append(own, "kept", "kept")[:len(texts)]
}

// allLoading calls each function of the chapter, in the way that has a result.
func allLoading(program []impl.Block, other []impl.Block) (programs [][]impl.Block, lists [][]string, text string, idle []int) {
	add := func(made []impl.Block, ok bool) {
		if ok {
			programs = append(programs, made)
		}
	}
	list := func(labels []string, ok bool) {
		if ok {
			lists = append(lists, labels)
		}
	}
	text, _ = impl.ProgramText(program)
	add(impl.ProgramFrom(text))
	add(impl.ProgramLoad(text))
	add(impl.ProgramTrim(program))
	add(impl.ProgramThin(program))
	add(impl.ProgramRename(program, "bb", "xx"))
	add(impl.ProgramLink(program, other))
	list(impl.ProgramNames(program))
	list(impl.ProgramReach(program))
	list(impl.ProgramWants(append(slices.Clone(program), coded([3]string{"ww", "", "(lab 0 want1) (lab 1 want2) (halt 0)"})...)))
	idle, _ = impl.BlockIdle(program, 2)
	impl.ProgramSize(program)
	return programs, lists, text, idle
}

func TestLoadingChangesNoArguments(t *testing.T) {
	program, other := roomyProgram(), roomyProgram()
	other[1].Label, other[2].Label = "b3", "b4"
	blocks, others := cloned(program[:4]), cloned(other[:4])
	var kept [][]string
	for _, list := range append(wholeTexts(program), wholeTexts(other)...) {
		kept = append(kept, slices.Clone(list))
	}
	for range 2 {
		programs, lists, text, idle := allLoading(program, other)
		if len(programs) != 6 || len(lists) != 3 || text == "" || !slices.Equal(idle, []int{0}) {
			t.Fatalf("there are %d programs, %d lists, %q and %v", len(programs), len(lists), text, idle)
		}
		// What fails changes nothing either.
		impl.ProgramLink(program, program)
		impl.ProgramRename(program, "bb", "dd")
		impl.ProgramRename(program, "bb", strings.Repeat("x", impl.FormMax))
		impl.ProgramThin(program[:4])
		impl.ProgramTrim(program[:4])
		impl.BlockIdle(program, 3)
	}
	if !reflect.DeepEqual(program[:4], blocks) || !reflect.DeepEqual(other[:4], others) {
		t.Errorf("of the arguments became\n%s\nand\n%s", listed(program[:4]), listed(other[:4]))
	}
	for k, list := range append(wholeTexts(program), wholeTexts(other)...) {
		if !slices.Equal(list, kept[k]) {
			t.Errorf("of %q became %q", kept[k], list)
		}
	}
	for k, program := range sampleLoadings() {
		if k%5 == 0 {
			before := cloned(program)
			allLoading(program, roomyProgram())
			if !reflect.DeepEqual(program, before) {
				t.Fatalf("of\n%.1000s\nbecame\n%.1000s", listed(before), listed(program))
			}
		}
	}
}

// spoil changes all that a program has, with the room behind it.
func spoil(program []impl.Block) {
	for _, list := range wholeTexts(program) {
		for k := range list {
			list[k] = "spoiled"
		}
	}
	for k := range program[:cap(program)] {
		program[:cap(program)][k] = impl.Block{Label: "spoiled"}
	}
}

// Results do not change when arguments and other results do.
func TestLoadedProgramsAreNewMemory(t *testing.T) {
	other := halts("main", "b3", "b4")
	want, wantLists, _, wantIdle := allLoading(roomyProgram(), other)
	for k := range want {
		want[k] = cloned(want[k])
	}
	for spoiled := range len(want) + 1 {
		program, second := roomyProgram(), cloned(other)
		programs, lists, _, idle := allLoading(program, second)
		if spoiled == len(want) {
			spoil(program[:4])
			spoil(second)
		} else {
			spoil(programs[spoiled])
		}
		for k := range programs {
			if k != spoiled && !sameProgram(programs[k], want[k]) {
				t.Errorf("result %d shares memory with %d", k, spoiled)
			}
		}
		if !reflect.DeepEqual(lists, wantLists) || !slices.Equal(idle, wantIdle) {
			t.Errorf("the lists %q and %v share memory with %d", lists, idle, spoiled)
		}
		if spoiled < len(want) && (!sameProgram(program, roomyProgram()) || !sameProgram(second, other)) {
			t.Errorf("result %d shares memory with an argument", spoiled)
		}
	}
	// The lists of one result, one by one.
	for n := range want {
		count := len(wholeTexts(want[n]))
		for k := range count {
			programs, _, _, _ := allLoading(roomyProgram(), other)
			changed := wholeTexts(programs[n])[k]
			for i := range changed {
				changed[i] = "spoiled"
			}
			for i, list := range wholeTexts(programs[n]) {
				if i != k && slices.Contains(list, "spoiled") {
					t.Errorf("list %d of result %d shares memory with list %d", i, n, k)
				}
			}
		}
	}
}

func TestLoadedProgramsAreNewTexts(t *testing.T) {
	program, other := roomyProgram(), roomyProgram()
	other[1].Label, other[2].Label = strings.Clone("b3"), strings.Clone("b4")
	wanting := append(cloned(program), impl.Block{Label: strings.Clone("ww"), Code: []string{strings.Clone("(lab 0 want1)"), strings.Clone("(zero 0 want2)"), strings.Clone("(halt 0)")}})
	text, label := strings.Clone(wholeText(program)), strings.Clone("xx")
	args := []string{text, label}
	for _, b := range append(cloned(wanting), other...) {
		args = slices.Concat(args, []string{b.Label}, b.Regs, b.Code)
	}
	var results []string
	take := func(program []impl.Block, ok bool) {
		if !ok {
			t.Errorf("there are no results behind %q", results)
		}
		for _, b := range program {
			results = slices.Concat(results, []string{b.Label}, b.Regs, b.Code)
		}
	}
	for range 2 {
		take(impl.ProgramFrom(text))
		take(impl.ProgramLoad(text))
		take(impl.ProgramTrim(program))
		take(impl.ProgramThin(program))
		take(impl.ProgramRename(program, "bb", label))
		take(impl.ProgramLink(program, other))
		wants, _ := impl.ProgramWants(wanting)
		results = append(results, wants...)
		_, lists, made, _ := allLoading(program, other)
		results = append(slices.Concat(append(lists, results)...), made)
	}
	for k, result := range results {
		for _, other := range append(slices.Clone(args), results[:k]...) {
			if len(result) > 1 && overlaps(other, result) {
				t.Errorf("%q shares memory with %q", cut(result), cut(other))
			}
		}
	}
}

// What fails has no results.
func TestLoadingThatFails(t *testing.T) {
	good := halts("main", "b")
	for _, list := range append(sampleLists(), nil, []impl.Block{}, []impl.Block{{}}, numbered(41), append(cloned(good), good[1])) {
		if isProgram(list) {
			continue
		}
		programs, lists, text, idle := allLoading(list, good)
		if len(programs) != 0 || len(lists) != 0 || text != "" || idle != nil {
			t.Fatalf("of no program there are %d programs, %d lists, %q and %v", len(programs), len(lists), text, idle)
		}
	}
	text, ok := impl.ProgramText(longLabelled(impl.FormMax + 1))
	from, read := impl.ProgramFrom(text)
	loaded, fine := impl.ProgramLoad("(program (block main (regs) (code (halt 0))))")
	if ok || text != "" || read || len(from) != 0 || fine || len(loaded) != 0 {
		t.Errorf("what fails has the results %q, %v and %v", cut(text), from, loaded)
	}
	names, _ := impl.ProgramNames(nil)
	reach, _ := impl.ProgramReach(nil)
	wants, _ := impl.ProgramWants(nil)
	trimmed, _ := impl.ProgramTrim(nil)
	thin, _ := impl.ProgramThin(numbered(1))
	renamed, _ := impl.ProgramRename(good, "b", "main")
	linked, _ := impl.ProgramLink(good, good)
	idle, _ := impl.BlockIdle(good, 2)
	if len(names)+len(reach)+len(wants)+len(trimmed)+len(thin)+len(renamed)+len(linked)+len(idle) > 0 {
		t.Errorf("what fails has the results %q, %q, %q, %v, %v, %v, %v and %v", names, reach, wants, trimmed, thin, renamed, linked, idle)
	}
}

// Two calls answer alike, whatever was called in between.
func TestLoadingKeepsNothing(t *testing.T) {
	r := rand.New(rand.NewSource(53))
	programs := sampleLoadings()
	for range 150 {
		program, other := programs[r.Intn(len(programs))], programs[r.Intn(len(programs))]
		first, lists, text, idle := allLoading(program, other)
		allLoading(other, program)
		second, again, same, idles := allLoading(cloned(program), cloned(other))
		if !slices.EqualFunc(first, second, sameProgram) || !reflect.DeepEqual(lists, again) || text != same || !slices.Equal(idle, idles) {
			t.Errorf("two calls with the same arguments answer differently, with\n%.1000s", listed(program))
		}
	}
}

func TestLoadingTakesAnyText(t *testing.T) {
	texts := []string{strings.Repeat("(program (block main ", 1<<15), strings.Repeat("(", 1<<20), strings.Repeat("a", 1<<20), "(program" + strings.Repeat(" (block main (regs) (code (halt 0)))", 1<<14) + ")"}
	r := rand.New(rand.NewSource(54))
	for range 3000 {
		text := make([]byte, r.Intn(30))
		for i := range text {
			text[i] = "()() program block code-\n\xff"[r.Intn(25)]
		}
		texts = append(texts, string(text))
	}
	for _, text := range texts {
		checkFromText(t, text, programOfText(text))
		if len(text) < 1000 {
			renamed, ok := impl.ProgramRename(halts("main", "b"), "b", text)
			checkMade(t, "ProgramRename as "+text, renamed, ok, renamedOf(halts("main", "b"), "b", text))
			renamed, ok = impl.ProgramRename(halts("main", "b"), text, "x")
			checkMade(t, "ProgramRename of "+text, renamed, ok, renamedOf(halts("main", "b"), text, "x"))
		}
		list := []impl.Block{{Label: "main", Code: []string{text, "(halt 0)"}}, {Label: text, Regs: []string{text}, Code: []string{text}}}
		if _, ok := impl.ProgramText(list); ok {
			t.Errorf("ProgramText of %q succeeds", cut(text))
		}
	}
}
