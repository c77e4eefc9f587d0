package tests

import (
	"math/rand"
	"slices"
	"strconv"
	"strings"
	"testing"

	"loop.example/typedassembly/impl"
)

// checkShape checks what a text is: "" for no expression, "bare", "simple", "normal" or "other".
func checkShape(t *testing.T, text string, want string) {
	t.Helper()
	bare := want == "bare"
	simple := bare || want == "simple"
	normal := simple || want == "normal"
	if impl.BareIs(text) != bare || impl.SimpleIs(text) != simple || impl.NormalIs(text) != normal {
		t.Errorf("%q is bare: %v, simple: %v, normal: %v, not %q", cut(text), impl.BareIs(text), impl.SimpleIs(text), impl.NormalIs(text), want)
	}
	if !normal {
		checkNotNormal(t, text)
	}
}

// checkNotNormal checks that all functions fail for a text that is no normal expression, but NormalOf.
func checkNotNormal(t *testing.T, text string) {
	t.Helper()
	if impl.NormalLets(text) != -1 {
		t.Errorf("NormalLets(%q) is %d", cut(text), impl.NormalLets(text))
	}
	if names, simple, ok := impl.NormalPath(text); ok || len(names) != 0 || simple != "" {
		t.Errorf("NormalPath(%q) is %q, %q, %v", cut(text), names, cut(simple), ok)
	}
	checkJoin(t, nil, nil, text, "")
	checkJoin(t, []string{"a"}, []string{"1"}, text, "")
	checkJoin(t, []string{"a"}, []string{text}, "a", "")
}

// checkPath checks the path of a normal expression.
func checkPath(t *testing.T, text string, simple string, names ...string) {
	t.Helper()
	if got, last, ok := impl.NormalPath(text); !ok || !slices.Equal(got, names) || last != simple {
		t.Errorf("NormalPath(%q) is %q, %q, %v, not %q, %q", cut(text), got, cut(last), ok, names, cut(simple))
	}
}

// checkJoin checks what NormalJoin returns, or that it fails if that is "".
func checkJoin(t *testing.T, names []string, simple []string, text string, want string) {
	t.Helper()
	if got, ok := impl.NormalJoin(names, simple, text); ok != (want != "") || got != want {
		t.Errorf("NormalJoin(%.200q, %.200q, %q) is %q, %v, not %q", names, simple, cut(text), cut(got), ok, cut(want))
	}
}

func TestWhatIsBare(t *testing.T) {
	for _, text := range []string{"a", "z", "i", "f", "a0", "y0", "y00", "x12", "a000", "x999", "0", "1", "-1", "499", "-500", "500", "-501", "999", "-999"} {
		checkShape(t, text, "bare")
		checkPath(t, text, text)
		checkNormalOf(t, text, text)
		if impl.NormalLets(text) != 0 {
			t.Errorf("NormalLets(%q) is %d", text, impl.NormalLets(text))
		}
	}
	for n := -1100; n <= 1100; n++ {
		if text := strconv.Itoa(n); impl.BareIs(text) != (-999 <= n && n <= 999) {
			t.Errorf("BareIs(%q) is %v", text, impl.BareIs(text))
		}
	}
	for _, text := range []string{"(a)", "(1)", "(fst a)", "(+ 1 2)", "(let a 1 a)", "(fun f x i i x)", "(pair 1 2)", "if", "let", "+", "x1234", "1000", "-0", "01", "aa", "A", "", " a", "a ", "1\n"} {
		if impl.BareIs(text) {
			t.Errorf("BareIs(%q) holds", text)
		}
	}
}

func TestWhatIsSimple(t *testing.T) {
	bare := []string{"a", "y0", "0", "-999", "999"}
	wide := []string{"(+ 1 2)", "(fst a)", "(pair 1 2)", "(call f x)", "(let a 1 a)", "(if 0 1 2)", "(fun f x i i x)"}
	for _, head := range []string{"+", "-", "*", "call", "pair"} {
		for _, first := range bare {
			for _, second := range bare {
				checkShape(t, "("+head+" "+first+" "+second+")", "simple")
			}
			for _, other := range wide {
				checkShape(t, "("+head+" "+first+" "+other+")", "other")
				checkShape(t, "("+head+" "+other+" "+first+")", "other")
				checkShape(t, "("+head+" "+other+" "+other+")", "other")
			}
		}
	}
	for _, head := range []string{"fst", "snd"} {
		for _, part := range bare {
			checkShape(t, "("+head+" "+part+")", "simple")
		}
		for _, part := range wide {
			checkShape(t, "("+head+" "+part+")", "other")
		}
	}
}

// The branches of an if and the body of a fun are normal, also where they are no simple ones.
func TestWhatIsSimpleOfIfAndFun(t *testing.T) {
	normal := []string{"a", "-999", "(+ a 1)", "(fst a)", "(let a 1 a)", "(let a (fst b) (let b (+ a 1) (call a b)))", "(if 0 (let a 1 a) 2)", "(fun f x i i (let a x a))", "(let a (fun f x i i (let b x b)) (if 1 (let c 2 c) a))"}
	other := []string{"(+ 1 (+ 2 3))", "(fst (snd a))", "(let a (let b 1 b) a)", "(let a 1 (fst (fst a)))", "(if (+ 1 2) 3 4)", "(fun f x i i (+ x (* x x)))", "(let a (if (let b 1 b) 2 3) a)", "(if 0 (pair 1 (pair 2 3)) 4)"}
	for _, body := range normal {
		for _, test := range []string{"a", "0", "-999"} {
			checkShape(t, "(if "+test+" "+body+" 1)", "simple")
			checkShape(t, "(if "+test+" 1 "+body+")", "simple")
			checkShape(t, "(if "+test+" "+body+" "+body+")", "simple")
		}
		checkShape(t, "(fun f x (> i i) (* i i) "+body+")", "simple")
		checkShape(t, "(fun f x i i (fun g y i i "+body+"))", "simple")
		checkShape(t, "(let a 1 "+body+")", "normal")
		checkShape(t, "(let a (fun f x i i "+body+") (let b (if a 1 "+body+") "+body+"))", "normal")
		if body[0] == '(' {
			checkShape(t, "(if "+body+" 1 2)", "other")
			checkShape(t, "(if "+body+" a a)", "other")
		}
	}
	for _, body := range other {
		checkShape(t, "(if a "+body+" 1)", "other")
		checkShape(t, "(if a 1 "+body+")", "other")
		checkShape(t, "(if a "+body+" "+body+")", "other")
		checkShape(t, "(fun f x i i "+body+")", "other")
		checkShape(t, "(fun f x i i (fun g y i i "+body+"))", "other")
		checkShape(t, "(fun f x i i (if a (let b 1 b) "+body+"))", "other")
		checkShape(t, "(let a 1 "+body+")", "other")
		checkShape(t, "(let a "+body+" a)", "other")
	}
}

func TestWhatIsNormal(t *testing.T) {
	cases := map[string]string{
		"(let a 1 a)": "normal", "(let a a a)": "normal", "(let a b 1)": "normal", "(let a (+ a 1) (fst a))": "normal", "(let a (fun f x i i x) (call a 1))": "normal",
		"(let a 1 (let a 2 (let a a a)))":                         "normal",
		"(let a (if b (let c 1 c) 2) (let d (pair a b) (snd d)))": "normal",
		"(let a (let b 1 b) a)":                                   "other", "(let a 1 (let b (let c 2 c) b))": "other", "(let a (let b (let c 1 c) b) a)": "other", "(let a (let b 1 b) (let c (let d 1 d) c))": "other",
		"(let a (+ 1 (+ 2 3)) a)": "other", "(let a 1 (+ a (+ a a)))": "other", "(let a 1 (let b 2 (fst (pair a b))))": "other", "(let a (fst (fst b)) 1)": "other",
		"(let a 1 (let b 2 (let c 3 (+ a (+ b c)))))": "other", "(let a 1 (let b (if (fst a) 1 2) b))": "other", "(let a (if b (fst (fst c)) 2) a)": "other",
		"(fst (let a 1 a))": "other", "(+ (let a 1 a) 2)": "other", "(if (let a 1 a) 2 3)": "other", "(call f (let a 1 a))": "other", "(pair (fun f x i i x) 1)": "other", "(call (fun f x i i x) 1)": "other",
		// The types of a fun are no parts that are made bare.
		"(fun f x (* (* i i) (* i i)) (> (> i i) i) x)": "simple", "(let f (fun f x (* (* i i) i) i (let i x i)) (call f 1))": "normal",
		inFsts(1, "a"): "simple", inFsts(2, "a"): "other", inFsts(impl.DepthMax, "a"): "other", inLets(39): "normal", inFuns(23): "simple", sumOf(60, "1"): "other", wideFuns("x"): "simple",
		"(fst " + sumOf(60, "a") + ")": "other", wideFuns("(let a x (let b x (pair a b)))"): "simple", wideFuns(strings.Repeat("(let a x ", 6) + "(pair a b)" + strings.Repeat(")", 6)): "simple",
	}
	for text, want := range cases {
		checkShape(t, text, want)
	}
}

func TestTextsThatAreNotNormal(t *testing.T) {
	for _, text := range noExprs() {
		checkShape(t, text, "")
		checkNormalOf(t, text, "")
	}
	for _, text := range []string{inLets(40), inFuns(24), "(let a 1 " + inLets(39) + ")", "(if a 1 " + inLets(39) + ")", wideFuns(strings.Repeat("(let a x ", 7) + "a" + strings.Repeat(")", 7))} {
		checkShape(t, text, "")
		checkNormalOf(t, text, "")
	}
	r := rand.New(rand.NewSource(18))
	for _, text := range sampleNormals() {
		if other := spoiled(r, text); !isExpr(other) {
			checkShape(t, other, "")
			checkNormalOf(t, other, "")
		}
	}
}

func TestShapesAgreeWithTheOracle(t *testing.T) {
	r := rand.New(rand.NewSource(19))
	counts := map[string]int{}
	texts := append(append(sampleNormals(), sampleNormalings()...), sampleExprTexts()...)
	for _, text := range sampleNormals() {
		texts = append(texts, swappedParts(r, text), swappedAtoms(r, text))
	}
	for _, text := range texts {
		want := shapeOf(text)
		counts[want]++
		checkShape(t, text, want)
	}
	for _, shape := range []string{"", "bare", "simple", "normal", "other"} {
		if counts[shape] < 200 && shape != "bare" || counts[shape] < 10 {
			t.Errorf("of the samples there are just %d of %q", counts[shape], shape)
		}
	}
}

// P42 and P43.
func TestBareAndSimpleSamples(t *testing.T) {
	bare, simple := 0, 0
	for _, text := range append(sampleNormals(), sampleNormalings()...) {
		head := impl.ExprHead(text)
		if impl.BareIs(text) {
			bare++
			if !impl.SimpleIs(text) || !impl.NormalIs(text) || head != "name" && head != "number" {
				t.Errorf("%q is bare, but simple: %v, normal: %v, with the head %q", text, impl.SimpleIs(text), impl.NormalIs(text), head)
			}
			checkNormalOf(t, text, text)
		}
		if impl.SimpleIs(text) {
			simple++
			if !impl.NormalIs(text) || head == "let" {
				t.Errorf("%q is simple, but normal: %v, with the head %q", cut(text), impl.NormalIs(text), head)
			}
			checkPath(t, text, text)
		}
	}
	if bare < 10 || simple < 200 {
		t.Errorf("%d samples are bare and %d simple", bare, simple)
	}
}

func TestNormalLetsOfSomeExprs(t *testing.T) {
	cases := map[string]int{
		"a": 0, "7": 0, "(+ 1 2)": 0, "(fun f x i i x)": 0, "(if a 1 2)": 0,
		"(let a 1 a)": 1, "(let a 1 (let b 2 (let a 3 a)))": 3,
		"(if a (let b 1 b) 2)": 1, "(if a 1 (let b 1 b))": 1, "(if a (let b 1 b) (let b 1 (let c b c)))": 3,
		"(fun f x i i (let a x a))": 1, "(fun f x i i (fun g y i i (let a x (let b y (+ a b)))))": 2,
		"(let a (if b (let c 1 c) 2) a)": 2, "(let a (fun f x i i (let b x (let c b c))) a)": 3, "(let a 1 (if a (let b 2 b) 3))": 2, "(let a 1 (fun f x i i (let b x b)))": 2,
		"(let a (if 0 (let b 1 b) (let b 1 b)) (let c (fun f x i i (let d x (if d (let e 1 e) 2))) (if a (let b 1 b) c)))": 7,
		inLets(39): 39,
		inFuns(23): 0,
	}
	for text, want := range cases {
		if got := impl.NormalLets(text); got != want {
			t.Errorf("NormalLets(%q) is %d, not %d", cut(text), got, want)
		}
	}
	for _, text := range []string{"(let a (let b 1 b) a)", "(+ 1 (let a 2 a))", "(fst (fst a))", "(fst (let a 1 a))", "(let a 1 (fst (snd a)))", inLets(40), "", "let", "(let)"} {
		if got := impl.NormalLets(text); got != -1 {
			t.Errorf("NormalLets(%q) is %d", cut(text), got)
		}
	}
}

func TestNormalPathOfSomeExprs(t *testing.T) {
	checkPath(t, "a", "a")
	checkPath(t, "-999", "-999")
	checkPath(t, "(+ a 1)", "(+ a 1)")
	checkPath(t, "(let a 1 a)", "a", "a")
	checkPath(t, "(let a 1 7)", "7", "a")
	checkPath(t, "(let a 1 (let b (+ a 1) b))", "b", "a", "b")
	checkPath(t, "(let b (fst c) (let a (pair b b) (call a b)))", "(call a b)", "b", "a")
	checkPath(t, "(let a 1 (let a a (let a (+ a a) (fst a))))", "(fst a)", "a", "a", "a")
	checkPath(t, "(let x999 1 (let a000 2 (let i 3 (- i x999))))", "(- i x999)", "x999", "a000", "i")
	// Those within the bound or the last simple expression do not stand at the beginning.
	checkPath(t, "(if a (let b 1 b) (let c 2 c))", "(if a (let b 1 b) (let c 2 c))")
	checkPath(t, "(fun f x i i (let a x a))", "(fun f x i i (let a x a))")
	checkPath(t, "(let a (if 0 (let b 1 b) (let c 2 c)) (let d (fun f x i i (let e x e)) (call d a)))", "(call d a)", "a", "d")
	checkPath(t, "(let a 1 (if a (let b 1 b) (let c 2 (let d c d))))", "(if a (let b 1 b) (let c 2 (let d c d)))", "a")
	checkPath(t, "(let a 1 (fun f x (* i i) i (let b x (let c 2 (+ b c)))))", "(fun f x (* i i) i (let b x (let c 2 (+ b c))))", "a")
	checkPath(t, inLets(39), "a", slices.Repeat([]string{"a"}, 39)...)
}

// P47 and P48.
func TestPathsOfNormalSamples(t *testing.T) {
	for _, text := range sampleNormals() {
		names, simple, ok := impl.NormalPath(text)
		lets := impl.NormalLets(text)
		if !ok || lets != strings.Count(text, "(let ") || lets < len(names) {
			t.Errorf("NormalLets(%q) is %d, with the path %q, %v", cut(text), lets, names, ok)
		}
		atoms, _ := impl.FormAtoms(text)
		if shape := shapeOf(simple); shape != "bare" && shape != "simple" || impl.FormSize(text) < impl.FormSize(simple)+3*len(names) {
			t.Errorf("NormalPath(%q) ends with %q", cut(text), cut(simple))
		}
		rest := text
		for _, name := range names {
			let := itemsOf(rest)
			if let[0] != "let" || let[1] != name || !slices.Contains(atoms, name) {
				t.Errorf("NormalPath(%q) has the names %q", cut(text), names)
			}
			rest = let[3]
		}
		if rest != simple {
			t.Errorf("NormalPath(%q) ends with %q", cut(text), cut(simple))
		}
		for _, further := range []string{"(let a 1 " + text + ")", "(let y0 (if a (let b 1 b) 2) " + text + ")"} {
			if isExpr(further) && impl.NormalLets(further) != lets+strings.Count(further, "(let ")-strings.Count(text, "(let ") {
				t.Errorf("NormalLets(%q) is %d, and without the first one %d", cut(further), impl.NormalLets(further), lets)
			}
		}
	}
}
