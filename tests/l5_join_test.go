package tests

import (
	"math/rand"
	"slices"
	"strings"
	"testing"

	"loop.example/typedassembly/impl"
)

func TestNormalJoinOfSomeExprs(t *testing.T) {
	checkJoin(t, nil, nil, "a", "a")
	checkJoin(t, []string{}, nil, "(let a 1 a)", "(let a 1 a)")
	checkJoin(t, nil, []string{}, "(if a (let b 1 b) 2)", "(if a (let b 1 b) 2)")
	checkJoin(t, []string{"a"}, []string{"(+ 1 2)"}, "a", "(let a (+ 1 2) a)")
	checkJoin(t, []string{"a"}, []string{"a"}, "a", "(let a a a)")
	checkJoin(t, []string{"a"}, []string{"-999"}, "7", "(let a -999 7)")
	checkJoin(t, []string{"a", "b"}, []string{"1", "(+ a 1)"}, "(* a b)", "(let a 1 (let b (+ a 1) (* a b)))")
	checkJoin(t, []string{"b", "a", "c"}, []string{"1", "2", "3"}, "(let d (pair a b) (fst d))", "(let b 1 (let a 2 (let c 3 (let d (pair a b) (fst d)))))")
	checkJoin(t, []string{"a", "a", "a"}, []string{"1", "(+ a a)", "(fst a)"}, "a", "(let a 1 (let a (+ a a) (let a (fst a) a)))")
	checkJoin(t, []string{"a"}, []string{"(if b (let c 1 c) 2)"}, "(let a 3 a)", "(let a (if b (let c 1 c) 2) (let a 3 a))")
	checkJoin(t, []string{"g", "x999"}, []string{"(fun f x (> i i) (* i i) (let a x a))", "(call g y0)"}, "(snd x999)", "(let g (fun f x (> i i) (* i i) (let a x a)) (let x999 (call g y0) (snd x999)))")
}

func TestNormalJoinFails(t *testing.T) {
	// Fewer or more simple expressions than names.
	checkJoin(t, []string{"a"}, nil, "a", "")
	checkJoin(t, nil, []string{"1"}, "a", "")
	checkJoin(t, []string{"a", "b"}, []string{"1"}, "a", "")
	checkJoin(t, []string{"a"}, []string{"1", "2"}, "a", "")
	checkJoin(t, []string{"a", "b", "c"}, []string{"1", "2", "3", "4"}, "a", "")
	for _, name := range append(noNames(), fixedFaults()...) {
		checkJoin(t, []string{name}, []string{"1"}, "a", "")
		checkJoin(t, []string{"a", name}, []string{"1", "2"}, "a", "")
		checkJoin(t, []string{name, "a"}, []string{"1", "2"}, "a", "")
		checkJoin(t, []string{"a", name, "b"}, []string{"1", "2", "3"}, "a", "")
	}
	for _, text := range append(noExprs(), "(+ 1 (+ 2 3))", "(fst (fst a))", "(if (fst a) 1 2)", "(fun f x i i (fst (fst x)))", "(if a 1 (let b (let c 1 c) b))") {
		checkJoin(t, []string{"a"}, []string{text}, "a", "")
		checkJoin(t, []string{"a", "b"}, []string{"1", text}, "a", "")
		checkJoin(t, []string{"a", "b"}, []string{text, "1"}, "a", "")
		checkJoin(t, nil, nil, text, "")
		checkJoin(t, []string{"a"}, []string{"1"}, text, "")
	}
	// What is normal, but not simple.
	for _, text := range []string{"(let a 1 a)", "(let b (fst a) (let c 1 c))"} {
		checkJoin(t, nil, nil, text, text)
		checkJoin(t, []string{"a"}, []string{"1"}, text, "(let a 1 "+text+")")
		checkJoin(t, []string{"a"}, []string{text}, "a", "")
		checkJoin(t, []string{"a", "b"}, []string{"1", text}, "a", "")
	}
}

func TestNormalJoinAtTheLimits(t *testing.T) {
	names, ones := slices.Repeat([]string{"a"}, 40), slices.Repeat([]string{"1"}, 40)
	lets := func(n int, text string) string {
		return strings.Repeat("(let a 1 ", n) + text + strings.Repeat(")", n)
	}
	checkJoin(t, names[:39], ones[:39], "a", lets(39, "a"))
	checkJoin(t, names[:39], ones[:39], "(fst a)", lets(39, "(fst a)"))
	checkJoin(t, names[:39], ones[:39], "(+ a 1)", lets(39, "(+ a 1)"))
	if whole := lets(39, "(+ a 1)"); impl.FormSize(whole) != impl.ExprMax {
		t.Errorf("%q has %d atoms", whole, impl.FormSize(whole))
	}
	checkJoin(t, names[:39], ones[:39], "(if a 1 2)", "")
	checkJoin(t, names, ones, "a", "")
	checkJoin(t, names[:1], ones[:1], inLets(38), "(let a 1 "+inLets(38)+")")
	checkJoin(t, names[:1], ones[:1], inLets(39), "")
	checkJoin(t, names[:1], []string{inFuns(23)}, "a", "(let a "+inFuns(23)+" a)")
	checkJoin(t, names[:1], []string{inFuns(23)}, "(fst a)", "(let a "+inFuns(23)+" (fst a))")
	checkJoin(t, names[:1], []string{inFuns(23)}, "(+ a 1)", "")
	checkJoin(t, names[:2], []string{inFuns(23), "1"}, "a", "")
	checkJoin(t, names[:2], []string{inFuns(23), inFuns(23)}, "a", "")
	// So many that what they would make is never made.
	for _, n := range []int{100, 120, 121, 1000, 1 << 20} {
		many, simple := slices.Repeat([]string{"a"}, n), slices.Repeat([]string{"1"}, n)
		checkJoin(t, many, simple, "a", "")
		checkJoin(t, many, simple, "(fst (fst a))", "")
		checkJoin(t, many, simple[:n-1], "a", "")
		checkJoin(t, many, nil, "a", "")
		checkJoin(t, nil, simple, "a", "")
		many[n-1] = ""
		checkJoin(t, many, simple, "a", "")
	}
}

// P49, and what the result is.
func TestNormalJoinOfSamples(t *testing.T) {
	r := rand.New(rand.NewSource(20))
	joined, over := 0, 0
	for k, text := range sampleNormals() {
		var names, simple []string
		want, close := "", 0
		for range r.Intn([]int{5, 5, 40}[k%3]) {
			name, value := randomName(r), randomSimple(r, r.Intn(3))
			names, simple = append(names, name), append(simple, value)
			want, close = want+"(let "+name+" "+value+" ", close+1
		}
		want += text + strings.Repeat(")", close)
		if !isExpr(want) {
			over++
			want = ""
		}
		checkJoin(t, names, simple, text, want)
		if want == "" {
			continue
		}
		joined++
		own, last, _ := impl.NormalPath(text)
		checkPath(t, want, last, append(slices.Clone(names), own...)...)
		checkShape(t, want, shapeOf(want))
		rest, ok := impl.NormalJoin(names, append(simple, "1"), text)
		if ok || rest != "" {
			t.Errorf("NormalJoin with one simple expression more is %q", cut(rest))
		}
	}
	if joined < 500 || over < 50 {
		t.Errorf("of the samples %d are joined, and %d too large", joined, over)
	}
}

// What NormalPath took apart, NormalJoin puts together again.
func TestNormalJoinOfPaths(t *testing.T) {
	for _, text := range sampleNormals() {
		names, last, _ := impl.NormalPath(text)
		var simple []string
		rest := text
		for range names {
			let := itemsOf(rest)
			simple, rest = append(simple, let[2]), let[3]
		}
		for k := range len(names) + 1 {
			_, ok := impl.NormalJoin(names[:k], simple[k:], last)
			if ok && len(names) != 2*k {
				t.Errorf("NormalJoin of %d names and %d simple expressions succeeds", k, len(names)-k)
			}
		}
		checkJoin(t, names, simple, last, text)
	}
}

func TestNormalFormsChangeNoArguments(t *testing.T) {
	names, simple := []string{"a12", "b", "kept"}, []string{"(+ 100 c)", "(fun f x i i (let a x a))", "kept too"}
	for range 2 {
		want := "(let a12 (+ 100 c) (let b (fun f x i i (let a x a)) (call b a12)))"
		checkJoin(t, names[:2], simple[:2], "(call b a12)", want)
		checkJoin(t, names, simple, "a", "")
		checkJoin(t, names[:2], simple[:1], "a", "")
	}
	if !slices.Equal(names, []string{"a12", "b", "kept"}) || !slices.Equal(simple, []string{"(+ 100 c)", "(fun f x i i (let a x a))", "kept too"}) {
		t.Errorf("NormalJoin made its arguments %q and %q", names, simple)
	}
	text := strings.Clone("(let a12 100 (let b12 a12 (pair a12 b12)))")
	path, _, _ := impl.NormalPath(text)
	path = append(path[:0], "c", "d", "e")
	checkPath(t, text, "(pair a12 b12)", "a12", "b12")
	if text != "(let a12 100 (let b12 a12 (pair a12 b12)))" || len(path) != 3 {
		t.Errorf("the argument became %q", text)
	}
}

func TestNormalFormsAreNewTexts(t *testing.T) {
	check := func(args []string, results ...string) {
		t.Helper()
		for i, result := range results {
			for _, other := range append(args, results[:i]...) {
				if len(result) > 1 && overlaps(other, result) {
					t.Errorf("%q shares memory with %q", result, other)
				}
			}
		}
	}
	for _, text := range []string{"a12", "-999", "(pair a12 100)", "(let a12 100 (let b12 a12 (pair a12 b12)))", "(let a12 100 a12)", "(let a12 b12 100)", "(fst (let a12 (pair 100 b12) a12))", "(if (+ b12 100) c12 (let a12 100 a12))"} {
		text = strings.Clone(text)
		before := strings.Clone(text)
		made, _ := impl.NormalOf(text)
		again, _ := impl.NormalOf(text)
		names, last, _ := impl.NormalPath(text)
		twice, end, _ := impl.NormalPath(text)
		joined, _ := impl.NormalJoin(nil, nil, text)
		check([]string{text}, append(append(names, twice...), made, again, last, end, joined)...)
		if made == "" || text != before {
			t.Errorf("NormalOf(%q) is %q, and the argument %q", before, made, text)
		}
	}
	name, value := strings.Clone("a12"), strings.Clone("100")
	joined, ok := impl.NormalJoin([]string{name}, []string{value}, value)
	if !ok || joined != "(let a12 100 100)" {
		t.Errorf("NormalJoin is %q, %v", joined, ok)
	}
	check([]string{name, value}, joined)
	made, _ := impl.NormalOf(name)
	check([]string{name}, made)
}
