package tests

import (
	"math/rand"
	"slices"
	"strconv"
	"strings"
	"testing"

	"loop.example/typedassembly/impl"
)

// checkHeapPrint checks the print of a word with a heap, wherever the state of the program is.
func checkHeapPrint(t *testing.T, heap [][]string, word string, want string) {
	t.Helper()
	program := stateProgram()
	checkPrint(t, program, stateAt("main", 0, heap), word, want)
	checkPrint(t, program, stateAt("b", 1, heap, word, "0", "@b"), word, want)
}

func TestPrintsOfWords(t *testing.T) {
	for n := -1000; n <= 1000; n++ {
		want := ""
		if -999 <= n && n <= 999 {
			want = strconv.Itoa(n)
		}
		checkHeapPrint(t, nil, strconv.Itoa(n), want)
	}
	for _, b := range stateProgram() {
		checkHeapPrint(t, nil, "@"+b.Label, "fun")
	}
	for _, word := range append(noWords(), "") {
		checkHeapPrint(t, nil, word, "")
		checkHeapPrint(t, stepHeap()[:3], word, "")
	}
	for n := range 5 {
		checkHeapPrint(t, slices.Repeat([][]string{{}}, n), "#"+strconv.Itoa(n), "")
	}
}

func TestPrintsOfTuples(t *testing.T) {
	heap := [][]string{
		{}, {"5"}, {"5", "-7"}, {"1", "2", "3"}, {"1", "2", "3", "4"}, {"@main"}, {"@b", "1"}, {"@b", "#1", "#2"}, {"1", "@main"}, {"@b", "@main"}, {"0", "@main", "@b"},
		{"#0"}, {"#1"}, {"#0", "#0"}, {"#2", "#2"}, {"#2", "#3"}, {"#5", "1"}, {"#5"}, {"1", "#6"}, {"#14", "#14"}, {"#16", "#17"}, {"#13", "#11", "#12"}, {"-999", "999", "#4", "@b0"},
	}
	wants := []string{
		"(t)", "(t 5)", "(pair 5 -7)", "(t 1 2 3)", "(t 1 2 3 4)", "fun", "fun", "fun", "(pair 1 fun)", "fun", "(t 0 fun fun)",
		"(t (t))", "(t (t 5))", "(pair (t) (t))", "(pair (pair 5 -7) (pair 5 -7))", "(pair (pair 5 -7) (t 1 2 3))", "(pair fun 1)", "(t fun)", "(pair 1 fun)",
		"(pair (pair (pair 5 -7) (pair 5 -7)) (pair (pair 5 -7) (pair 5 -7)))", "(pair (pair fun 1) (t fun))", "(t (pair (t) (t)) (t (t)) (t (t 5)))", "(t -999 999 (t 1 2 3 4) fun)",
	}
	for k, want := range wants {
		checkHeapPrint(t, heap, "#"+strconv.Itoa(k), want)
		checkHeapPrint(t, heap[:k+1], "#"+strconv.Itoa(k), want)
		checkHeapPrint(t, heap[:k], "#"+strconv.Itoa(k), "")
	}
}

// wideTuple has words that are printed with a number of bytes, as a tuple of more than two.
func wideTuple(bytes int) []string {
	room := bytes - len("(t)")
	words := slices.Repeat([]string{"7"}, room/2)
	if room%2 == 1 {
		words[len(words)/2] = "10"
	}
	return words
}

func TestPrintsOfSomeBytes(t *testing.T) {
	around := []struct {
		words []string
		print string
	}{{[]string{"#1"}, "(t $)"}, {[]string{"#1", "5"}, "(pair $ 5)"}, {[]string{"-55", "#1"}, "(pair -55 $)"}, {[]string{"#1", "@main", "#0"}, "(t $ fun (t 5))"}, {[]string{"1", "#1", "22", "#2"}, "(t 1 $ 22 fun)"}}
	for n := impl.FormMax - 3; n <= impl.FormMax+3; n++ {
		want := ""
		if n <= impl.FormMax {
			want = "(t " + strings.Join(wideTuple(n), " ") + ")"
		}
		checkHeapPrint(t, [][]string{wideTuple(n)}, "#0", want)
		for _, c := range around {
			inside := wideTuple(n - len(c.print) + len("$"))
			if n <= impl.FormMax {
				want = strings.Replace(c.print, "$", "(t "+strings.Join(inside, " ")+")", 1)
			}
			if want != "" && len(want) != n {
				t.Fatalf("the print has %d bytes, not %d", len(want), n)
			}
			heap := [][]string{{"5"}, inside, {"@main", "#1"}, c.words, {"@main", "#3"}, {"#4", "#0"}}
			checkHeapPrint(t, heap, "#3", want)
			// What is too long is nothing beside a first word that is code.
			checkHeapPrint(t, heap, "#4", "fun")
			checkHeapPrint(t, heap, "#5", "(pair fun (t 5))")
		}
	}
}

// Prints may be deeper than forms are.
func TestPrintsOfManyLevels(t *testing.T) {
	level := func(n int) [][]string {
		heap := [][]string{{}}
		for k := range n {
			heap = append(heap, []string{"#" + strconv.Itoa(k)})
		}
		return heap
	}
	for _, n := range []int{0, 1, 58, 59, 60, 61, 100, 1000, 2998, 2999, 3000, 10000, impl.RunMax - 1} {
		want := ""
		if 4*n+3 <= impl.FormMax {
			want = inTuples(n, "(t)")
		}
		checkHeapPrint(t, level(n), "#"+strconv.Itoa(n), want)
	}
}

// doublingHeap has tuples each of which has the one before twice.
func doublingHeap(first []string, n int) [][]string {
	heap := [][]string{first}
	for k := range n {
		word := "#" + strconv.Itoa(k)
		heap = append(heap, []string{word, word})
	}
	return heap
}

// What grows by doubling fails and returns at once, also where what is too long is wide.
func TestPrintsThatDouble(t *testing.T) {
	want := "(t 7)"
	for n := range 14 {
		checkHeapPrint(t, doublingHeap([]string{"7"}, n), "#"+strconv.Itoa(n), want)
		if want != "" {
			want = "(pair " + want + " " + want + ")"
		}
		if len(want) > impl.FormMax {
			want = ""
		}
	}
	for _, n := range []int{20, 60, 64, 100, 1000, impl.RunMax - 1} {
		heap := doublingHeap([]string{"7"}, n)
		checkHeapPrint(t, heap, "#"+strconv.Itoa(n), "")
		checkHeapPrint(t, heap, "#5", printIn(stateAt("main", 0, heap), "#5"))
		heap = doublingHeap([]string{"@main"}, n)
		checkHeapPrint(t, heap, "#"+strconv.Itoa(n), "")
		checkHeapPrint(t, heap, "#2", "(pair (pair fun fun) (pair fun fun))")
	}
	heap := [][]string{{}}
	for k := range 2000 {
		heap = append(heap, slices.Repeat([]string{"#" + strconv.Itoa(k)}, 200))
	}
	checkHeapPrint(t, heap, "#2000", "")
	checkHeapPrint(t, heap, "#1", "(t"+strings.Repeat(" (t)", 200)+")")
}

// P69: a print is that of the word itself, or made of those of its words.
func checkPrintOfParts(t *testing.T, program []impl.Block, s impl.State, word string, printed string) {
	t.Helper()
	switch {
	case word[0] == '@':
		if printed != "fun" {
			t.Errorf("the print of %q is %q", word, printed)
		}
	case word[0] != '#':
		if printed != word {
			t.Errorf("the print of %q is %q", word, printed)
		}
	case printed != "fun":
		k, _ := strconv.Atoi(word[1:])
		parts, ok := impl.FormParts(printed)
		if impl.FormDepth(printed) < 0 || !ok || parts[0] != "t" && parts[0] != "pair" || len(parts) != 1+len(s.Heap[k]) || (parts[0] == "pair") != (len(parts) == 3) {
			t.Errorf("the print of %q in %s is %q", word, shown(s), cut(printed))
			return
		}
		for n, part := range s.Heap[k] {
			checkPrint(t, program, s, part, parts[n+1])
		}
	default:
		k, _ := strconv.Atoi(word[1:])
		if len(s.Heap[k]) == 0 || s.Heap[k][0][0] != '@' {
			t.Errorf("the print of %q in %s is %q", word, shown(s), printed)
		}
	}
}

func TestPrintsAgreeWithTheOracle(t *testing.T) {
	r := rand.New(rand.NewSource(32))
	lists := 0
	for _, s := range sampleStates() {
		if !isState(s.program, s.State) {
			continue
		}
		words := append(randomWords(r, s.program, len(s.Heap))[1:], "@nowhere", "#"+strconv.Itoa(len(s.Heap)))
		prints := printsOf(s.Heap)
		for _, word := range words {
			if !isWord(s.program, len(s.Heap), word) {
				checkPrint(t, s.program, s.State, word, "")
				continue
			}
			want := printedWord(prints, word)
			checkPrint(t, s.program, s.State, word, want)
			checkPrintOfParts(t, s.program, s.State, word, want)
			if want[0] == '(' {
				lists++
			}
		}
	}
	if lists < 1000 {
		t.Errorf("of the prints %d are lists", lists)
	}
}
