package tests

import (
	"strconv"
	"strings"
	"testing"

	"loop.example/typedassembly/impl"
)

// inConsts is an expression behind as many numerals that are put into registers.
func inConsts(n int, text string) string {
	return strings.Repeat("(let b 1 ", n) + text + strings.Repeat(")", n)
}

// inIfs is an expression behind as many if whose first and second parts are told.
func inIfs(n int, parts string, text string) string {
	return strings.Repeat("(if "+parts+" ", n) + text + strings.Repeat(")", n)
}

// numeralSum has two registers for each sum, and one more.
func numeralSum(n int) string {
	return strings.Repeat("(+ 1 ", n) + "1" + strings.Repeat(")", n)
}

// capturing is a function that captures ten names: its block has 40 registers with a name at the end, and 41 with a numeral there.
func capturing(last string) string {
	text := inConsts(19, last)
	for k := 0; k < 10; k += 2 {
		text = "(let b (+ x" + strconv.Itoa(k) + " x" + strconv.Itoa(k+1) + ") " + text + ")"
	}
	text = "(fun f x i i " + text + ")"
	for k := range 10 {
		text = "(let x" + strconv.Itoa(9-k) + " 1 " + text + ")"
	}
	return text
}

// checkLimit checks an expression for which a limit is just met, and one for which just this limit is passed, by measures of their blocks.
func checkLimit(t *testing.T, fits string, passes string, measure func([]impl.Block) int, limit int) {
	t.Helper()
	if got := measure(blocksOf(fits)); got != limit {
		t.Fatalf("%q needs %d", fits, got)
	}
	checkCompiled(t, fits, blocksOf(fits))
	beyond := blocksOf(passes)
	if got := measure(beyond); got != limit+1 {
		t.Fatalf("%q needs %d", passes, got)
	}
	limits := []bool{mostRegisters(beyond) > impl.RegsMax, mostCode(beyond) > impl.CodeMax, len(beyond) > impl.BlocksMax}
	passed := 0
	for _, is := range limits {
		if is {
			passed++
		}
	}
	if _, ok := impl.NormalOf(passes); !ok || !impl.ExprTyped(passes) || passed != 1 {
		t.Fatalf("%q passes %d limits", passes, passed)
	}
	checkNotCompiled(t, passes)
}

func TestCompileWithManyRegisters(t *testing.T) {
	fun := func(n int, last string) string { return "(fun f x i i " + inConsts(n, last) + ")" }
	rest := func(n int, last string) string {
		return "(let g (fun f x i i x) (let a (call g 1) " + inConsts(n, last) + "))"
	}
	cases := [][2]string{
		// In main: numerals alone, in a sum, ahead of a function, and ahead of a rest of an if.
		{inConsts(33, "b"), inConsts(34, "b")},
		{inConsts(32, "2"), inConsts(33, "2")},
		{numeralSum(16), inConsts(1, numeralSum(16))},
		{inConsts(29, "(fun f x i i x)"), inConsts(30, "(fun f x i i x)")},
		{inConsts(28, "(let a (if b 2 3) a)"), inConsts(29, "(let a (if b 2 3) a)")},
		{inConsts(25, "(let a (call (fun f x i i x) b) a)"), inConsts(26, "(let a (call (fun f x i i x) b) a)")},
		// In the block of a function: numerals, itself, and captured names.
		{fun(34, "x"), fun(35, "x")},
		{fun(31, "(call f x)"), fun(32, "(call f x)")},
		{capturing("x"), capturing("7")},
		// In that of a rest: with the register to go on alone, and with a name.
		{rest(34, "a"), rest(35, "a")},
		{rest(33, "(call g a)"), rest(34, "(call g a)")},
		// In the block of an if, whose next register is that behind its own test, and in both.
		{"(if 0 " + inConsts(32, "b") + " 1)", "(if 0 " + inConsts(33, "b") + " 1)"},
		{"(if 0 1 " + inConsts(32, "b") + ")", "(if 0 1 " + inConsts(33, "b") + ")"},
		{inConsts(33, "(if b b b)"), inConsts(33, "(if 0 b b)")},
	}
	for _, c := range cases {
		checkLimit(t, c[0], c[1], mostRegisters, impl.RegsMax)
	}
	// What is far beyond it fails, too.
	for n := 35; n <= 39; n++ {
		checkNotCompiled(t, inConsts(n, "b"))
	}
}

func TestCompileWithManyBlocks(t *testing.T) {
	ifs := func(n int) string { return "(fun f x i i " + inIfs(n, "x x", "x") + ")" }
	rests := func(n int, last string) string {
		return "(fun f x i i " + strings.Repeat("(let x (if x x x) ", n) + last + strings.Repeat(")", n) + ")"
	}
	count := func(program []impl.Block) int { return len(program) }
	checkLimit(t, ifs(37), ifs(38), count, impl.BlocksMax)
	checkLimit(t, rests(18, "(if x x x)"), rests(19, "x"), count, impl.BlocksMax)
	for _, text := range []string{ifs(37), rests(18, "(if x x x)"), "(let a 0 " + inIfs(38, "a a", "a") + ")"} {
		labels, ok := impl.CompileLabels(text)
		if !ok || len(labels) != 40 || labels[0] != "main" || labels[1] != "end" || labels[2] != "b0" || labels[39] != "b37" {
			t.Errorf("CompileLabels(%q) is %q, %v", text, labels, ok)
		}
	}
}

func TestCompileWithManyInstructions(t *testing.T) {
	code := func(n int) string { return "(let a 0 " + inIfs(32, "0 a", inIfs(n, "a a", "a")) + ")" }
	checkLimit(t, code(5), code(6), mostCode, impl.CodeMax)
	if program := blocksOf(code(6)); mostRegisters(program) != impl.RegsMax || len(program) != impl.BlocksMax {
		t.Errorf("the program has %d registers and %d blocks", mostRegisters(program), len(program))
	}
}

// largestForm is how many bytes the largest form of a program has, and how deep the deepest one is.
func largestForm(program []impl.Block) (int, int) {
	bytes, depth := 0, 0
	for _, b := range program {
		for _, text := range append(b.Regs, b.Code...) {
			bytes, depth = max(bytes, len(text)), max(depth, depthOf(text))
		}
	}
	return bytes, depth
}

// The types of an expression have at most 15 atoms, so that there is always place for their target types.
func TestCompileWithLargeTypes(t *testing.T) {
	kinds := []string{
		wideType(">", 15), wideType("*", 15), "(> " + wideType(">", 13) + " i)", "(> " + wideType("*", 7) + " " + wideType(">", 7) + ")", "(* (> i " + wideType(">", 5) + ") " + wideType("*", 7) + ")",
	}
	around := []string{
		"#", "(let a # a)", "(let a # (if 0 a a))", "(let a # (let b (if 0 1 2) a))", "(let a # (fun f x i i x))", "(let a # (let b (fun f x i i (let b a x)) (if 0 b b)))", "(let a (if 0 # 1) 2)", "(let a (if 0 # #) a)",
	}
	compiled := 0
	for _, kind := range kinds {
		of, ok := impl.ExprOf(kind)
		if !ok {
			t.Fatalf("there is no expression of %q", kind)
		}
		for _, text := range around {
			text = strings.ReplaceAll(text, "#", of)
			if want := compiledOf(text); want != nil {
				checkCompiled(t, text, want)
				compiled++
			} else {
				checkNotCompiled(t, text)
			}
		}
	}
	if compiled < 30 {
		t.Errorf("just %d of these expressions are compiled", compiled)
	}
	deep, _ := impl.ExprOf(wideType(">", 15))
	program, ok := impl.Compile("(let a " + deep + " (let b (if 0 1 2) (let c (if 0 1 2) (if b a a))))")
	if _, depth := largestForm(program); !ok || depth != 48 {
		t.Errorf("the deepest form has the depth %d, %v", depth, ok)
	}
}

// manyWide is a function that captures names of a large type, as many as a number tells, behind which the block of an if knows all types.
func manyWide(names int) string {
	text := "0"
	for k := range names {
		text = "(let b x" + strconv.Itoa(k) + " " + text + ")"
	}
	text = "(let g (fun g y i i " + text + ") (if 0 g g))"
	for k := range names - 1 {
		text = "(let x" + strconv.Itoa(names-1-k) + " x0 " + text + ")"
	}
	return "(let x0 (fun f x " + wideType(">", 13) + " i 0) " + text + ")"
}

func TestCompileWithLargeForms(t *testing.T) {
	for _, names := range []int{1, 2, 7, 14} {
		text := manyWide(names)
		checkCompiled(t, text, compiledOf(text))
	}
	program, ok := impl.Compile(manyWide(14))
	if bytes, _ := largestForm(program); !ok || bytes < impl.FormMax/2 {
		t.Errorf("the largest form has %d bytes, %v", bytes, ok)
	}
}

// Expressions of the greatest number of atoms, before or behind they are made normal, and larger ones.
func TestCompileLargeExprs(t *testing.T) {
	sums := func(n int, names int) string {
		return "(fun f x i i " + strings.Repeat("(let b x ", names) + numeralSum(n) + strings.Repeat(")", names+1)
	}
	cases := []struct {
		text          string
		atoms, normal int
	}{
		{"(fun f x i i " + inIfs(37, "x x", "(let b x x)") + ")", 120, 120},
		{"(let a 0 " + inIfs(37, "a a", "(let b a (+ a a))") + ")", 120, 120},
		{inConsts(32, strings.Repeat("(let c b ", 7)+"(+ b b)"+strings.Repeat(")", 7)), 120, 120},
		{"(let g (fun f x i i x) (let a (call g 1) " + strings.Repeat("(let a (call g a) ", 20) + "(let b a (let c b c))" + strings.Repeat(")", 22), 120, 120},
		{sums(15, 14), 78, 120},
		{sums(14, 16), 82, 121},
		{sums(20, 7), 67, 124},
		{sumOf(26, "1"), 51, 123},
		{"(fun f x i i " + inIfs(37, "x x", "(fst (pair x x))") + ")", 120, 123},
		{"(let a 0 " + inIfs(37, "a a", "(let b a (let c b b))") + ")", 121, 121},
	}
	for _, c := range cases {
		want := compiledOf(c.text)
		if atoms := len(atomsOf(c.text)); atoms != c.atoms || (want != nil) != (c.normal <= impl.ExprMax) {
			t.Fatalf("%q has %d atoms", c.text, atoms)
		}
		if want == nil {
			checkNotCompiled(t, c.text)
			continue
		}
		checkCompiled(t, c.text, want)
		if normal, _ := impl.NormalOf(c.text); impl.FormSize(normal) != c.normal {
			t.Errorf("the normal expression of %q has %d atoms", c.text, impl.FormSize(normal))
		}
	}
}
