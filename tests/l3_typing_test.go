package tests

import (
	"math/rand"
	"slices"
	"strconv"
	"strings"
	"testing"

	"loop.example/typedassembly/impl"
)

func TestEnvValidOfSomeLists(t *testing.T) {
	valid := append(sampleEnvs(), env{[]string{}, []string{}}, env{nil, []string{}}, env{[]string{}, nil}, envOf("i "+wideType(">", 15)), envOf("a i", "a i"), envOf("x999 (* (> i i) i)"))
	valid = append(valid, env{slices.Repeat([]string{"a"}, impl.EnvMax), slices.Repeat([]string{"i"}, impl.EnvMax)})
	for _, e := range valid {
		if !impl.EnvValid(e.names, e.types) {
			t.Errorf("EnvValid(%q, %q) does not hold", e.names, e.types)
		}
	}
	for _, name := range []string{"a", "z", "i", "x0", "x12", "x999", "a000"} {
		if !impl.EnvValid([]string{name}, []string{"i"}) {
			t.Errorf("%q is no name of an environment", name)
		}
	}
	for kind := range smallTypes() {
		if !impl.EnvValid([]string{"a"}, []string{kind}) {
			t.Errorf("%q is no type of an environment", kind)
		}
	}
}

func TestLimitOfEnvs(t *testing.T) {
	if impl.EnvMax != 8 {
		t.Errorf("the limit is %d", impl.EnvMax)
	}
	var e env
	for n := range 3 * impl.EnvMax {
		if impl.EnvValid(e.names, e.types) != (n <= 8) {
			t.Errorf("%d names are an environment: %v", n, n > 8)
		}
		e = e.with("x"+strconv.Itoa(n), "i")
	}
}

// Of lists that are no environment nothing has a type, neither what needs no name nor a name that stands where it would be fitting.
func TestListsThatAreNoEnv(t *testing.T) {
	for _, e := range faultEnvs() {
		if impl.EnvValid(e.names, e.types) {
			t.Errorf("EnvValid(%.300q, %.300q) holds", e.names, e.types)
		}
		for _, name := range []string{"a", "b", "y", ""} {
			if kind, ok := impl.EnvLook(e.names, e.types, name); ok || kind != "" {
				t.Errorf("EnvLook(%.300q, %.300q, %q) is %q, %v", e.names, e.types, name, kind, ok)
			}
		}
		for _, text := range []string{"0", "a", "(+ 1 2)", "(let a 1 a)", "(fun f x i i x)", "x1234"} {
			if kind, ok := impl.ExprType(e.names, e.types, text); ok || kind != "" {
				t.Errorf("ExprType(%.300q, %.300q, %q) is %q, %v", e.names, e.types, text, kind, ok)
			}
		}
	}
}

func TestEnvLookOfSomeNames(t *testing.T) {
	e := envOf("a i", "b (> i i)", "a (* i i)", "c i", "b (> i (> i i))", "c i")
	cases := map[string]string{"a": "(* i i)", "b": "(> i (> i i))", "c": "i"}
	for name, want := range cases {
		if kind, ok := impl.EnvLook(e.names, e.types, name); !ok || kind != want {
			t.Errorf("EnvLook of %q is %q, %v", name, kind, ok)
		}
	}
	for _, name := range append([]string{"d", "i", "a0", "a000", "f", "0", "aa", "(a)", "a b"}, noNames()...) {
		if kind, ok := impl.EnvLook(e.names, e.types, name); ok || kind != "" {
			t.Errorf("EnvLook of %q is %q, %v", name, kind, ok)
		}
	}
	if kind, ok := impl.EnvLook(nil, nil, "a"); ok || kind != "" {
		t.Errorf("EnvLook without names is %q, %v", kind, ok)
	}
}

// randomEnv is an environment of few names, some of which stand there more than once.
func randomEnv(r *rand.Rand) env {
	var e env
	for range r.Intn(impl.EnvMax + 1) {
		e = e.with(randomName(r), randomType(r, r.Intn(4)))
	}
	return e
}

// P23 and P24.
func TestEnvLookOfRandomEnvs(t *testing.T) {
	r := rand.New(rand.NewSource(8))
	envs := sampleEnvs()
	for range 1000 {
		envs = append(envs, randomEnv(r))
	}
	for _, e := range envs {
		for _, name := range []string{"a", "b", "i", "x0", "x1", "x12", "f", "y", "z999"} {
			want := e.look(name)
			kind, ok := impl.EnvLook(e.names, e.types, name)
			if ok != (want != "") || kind != want {
				t.Errorf("EnvLook(%q, %q, %q) is %q, %v", e.names, e.types, name, kind, ok)
			}
			if again, ok := impl.ExprType(e.names, e.types, name); ok != (want != "") || again != want {
				t.Errorf("ExprType(%q, %q, %q) is %q, %v", e.names, e.types, name, again, ok)
			}
			if want == "" || len(e.names) == impl.EnvMax {
				continue
			}
			other := randomName(r)
			ahead := env{append([]string{other}, e.names...), append([]string{randomType(r, 2)}, e.types...)}
			if kind, ok := impl.EnvLook(ahead.names, ahead.types, name); !ok || kind != want {
				t.Errorf("EnvLook(%q, %q, %q) is %q, %v", ahead.names, ahead.types, name, kind, ok)
			}
			if kind, ok := impl.ExprType(ahead.names, ahead.types, name); !ok || kind != want {
				t.Errorf("ExprType(%q, %q, %q) is %q, %v", ahead.names, ahead.types, name, kind, ok)
			}
		}
	}
}

// checkType checks the type of an expression, or that it has none if the type is "".
func checkType(t *testing.T, e env, text string, want string) {
	t.Helper()
	if kind, ok := impl.ExprType(e.names, e.types, text); ok != (want != "") || kind != want {
		t.Errorf("ExprType(%q, %q, %q) is %q, %v, not %q", e.names, e.types, cut(text), kind, ok, want)
	}
}

// manyKinds is an environment in which a and b are numbers, p is a pair, q one of a function and a pair, and f, g and h are functions.
func manyKinds() env {
	return envOf("a i", "b i", "p (* i i)", "q (* (> i i) (* i i))", "f (> i i)", "g (> i (> i i))", "h (> (> i i) (* i i))")
}

func TestExprTypeOfEachHead(t *testing.T) {
	cases := map[string]string{
		"0": "i", "-999": "i", "999": "i", "a": "i", "p": "(* i i)", "h": "(> (> i i) (* i i))",
		"(+ a 1)": "i", "(- a b)": "i", "(* -1 (+ a b))": "i",
		"(if a 1 b)": "i", "(if 0 p (pair 1 2))": "(* i i)", "(if (call f a) f (call g a))": "(> i i)",
		"(let x a x)": "i", "(let x p x)": "(* i i)", "(let x p a)": "i", "(let x p (fst x))": "i", "(let x f (call x a))": "i",
		"(fun k x i i x)": "(> i i)", "(fun k x (* i i) i (fst x))": "(> (* i i) i)", "(fun k x i i (call k x))": "(> i i)",
		"(fun k x i (> i i) k)": "", "(fun k x i (> i i) f)": "(> i (> i i))", "(fun k x (> i i) i (call x a))": "(> (> i i) i)", "(fun k x i (* i i) p)": "(> i (* i i))",
		"(call f 1)": "i", "(call (call g a) b)": "i", "(call g a)": "(> i i)", "(call h f)": "(* i i)", "(call h (call g 1))": "(* i i)", "(call (fst q) 1)": "i",
		"(pair a b)": "(* i i)", "(pair p f)": "(* (* i i) (> i i))", "(pair f p)": "(* (> i i) (* i i))",
		"(fst p)": "i", "(snd p)": "i", "(fst q)": "(> i i)", "(snd q)": "(* i i)", "(snd (snd q))": "i", "(fst (pair f 1))": "(> i i)", "(snd (pair f 1))": "i",
	}
	for text, want := range cases {
		checkType(t, manyKinds(), text, want)
	}
}

func TestExprTypeOfTypesThatDoNotFit(t *testing.T) {
	texts := []string{
		"(if p 1 2)", "(if f 1 2)", "(if (pair 1 2) 1 2)", "(if 1 2 p)", "(if 1 p 2)", "(if 1 f g)", "(if 1 p (pair p p))", "(if 0 p f)", "(if 0 f p)",
		"(fun k x i (* i i) x)", "(fun k x (* i i) i x)", "(fun k x i i f)", "(fun k x i i k)", "(fun k x i (> i i) x)", "(fun k x i (> i i) g)", "(fun k x i (* i i) f)", "(fun k x (> i i) i (call x x))", "(fun k x i i (call k k))",
		"(call f p)", "(call f f)", "(call g f)", "(call h 1)", "(call h g)", "(call h h)", "(call h p)", "(call f (pair a b))",
		"(call 1 2)", "(call a a)", "(call p 1)", "(call q 1)", "(call (call f 1) 1)", "(call p i)", "(call (pair f f) 1)", "(call (fun k x (* i i) i 0) (pair 1 (pair 2 3)))",
		"(fst 1)", "(snd 1)", "(fst a)", "(snd a)", "(fst f)", "(snd f)", "(fst (fst p))", "(snd (fst q))", "(fst h)", "(snd h)", "(fst (fun k x i i x))",
		"(let x (fst 1) 1)", "(let x (fst 1) x)", "(let x p (+ x 1))", "(let x 1 (fst x))",
	}
	for _, head := range []string{"+", "-", "*"} {
		for _, part := range []string{"p", "q", "f", "g", "(pair 1 2)", "(fun k x i i x)"} {
			texts = append(texts, "("+head+" "+part+" 1)", "("+head+" 1 "+part+")", "("+head+" "+part+" "+part+")", "("+head+" a (fst (pair "+part+" 1)))")
		}
	}
	for _, text := range texts {
		if !isExpr(text) {
			t.Errorf("%q is no expression", text)
		}
		checkType(t, manyKinds(), text, "")
	}
}

// A part without a type takes it from all that it is part of.
func TestExprTypeNeedsThatOfEachPart(t *testing.T) {
	around := []string{
		"(+ # 1)", "(+ 1 #)", "(- # 1)", "(- 1 #)", "(* # 1)", "(* 1 #)", "(if # 1 2)", "(if 1 # 2)", "(if 1 2 #)", "(let x # 1)", "(let x 1 #)", "(fun k x i i #)",
		"(call f #)", "(call # 1)", "(call (fun k x i i 0) #)", "(pair # 1)", "(pair 1 #)", "(fst #)", "(snd #)", "(fst (pair 1 #))", "(snd (pair # 1))", "(let x (pair 1 #) (fst x))", "(if 0 1 (let x # 2))", "(if 1 (let x # 2) 1)",
	}
	for _, text := range around {
		for _, part := range []string{"(fst 1)", "(+ 1 p)", "(call 1 2)", "y", "x9", "i", "(fun k z i i k)", "(if p 1 2)", "(let y y 1)", "(pair 1 y)"} {
			checkType(t, manyKinds(), strings.Replace(text, "#", part, 1), "")
		}
	}
}

func TestExprTypeOfFreeNames(t *testing.T) {
	for _, text := range []string{"y", "i", "(+ a y)", "(let y y y)", "(let x y 1)", "(let x 1 y)", "(fun k x i i y)", "(fun k x i i i)", "(pair (let y 1 y) y)", "(pair y (let y 1 y))", "(let x (fun k y i i y) y)", "(call (fun k x i i x) k)"} {
		checkType(t, manyKinds(), text, "")
		checkType(t, env{}, text, "")
	}
	for _, text := range []string{"a", "(fst p)", "(let x a x)", "(fun k x i i a)"} {
		checkType(t, env{}, text, "")
	}
	checkType(t, envOf("i (* i i)"), "(fun k x i i (fst i))", "(> i i)")
	checkType(t, envOf("i (* i i)"), "(fun i x i i (call i x))", "(> i i)")
}

func TestExprTypeOfShadowedNames(t *testing.T) {
	a := envOf("a i")
	cases := []struct {
		env  env
		text string
		want string
	}{
		// A name of the environment is bound again with another type.
		{a, "(let a (pair a a) a)", "(* i i)"},
		{a, "(let a (pair a a) (let a (pair a 1) a))", "(* (* i i) i)"},
		{a, "(fun f a (* i i) i (fst a))", "(> (* i i) i)"},
		{a, "(fun f a (* i i) i (+ a 1))", ""},
		{a, "(fun a x i i (call a x))", "(> i i)"},
		{a, "(fun a x i i (+ a x))", ""},
		{a, "(fun a x i (> i i) a)", ""},
		{a, "(fun f a (> i i) (> i i) a)", "(> (> i i) (> i i))"},
		{envOf("f i", "x (* i i)"), "(fun f x i i (call f x))", "(> i i)"},
		{envOf("f i", "x (* i i)"), "(fun x f i i (call x f))", "(> i i)"},
		{envOf("f i", "x (* i i)"), "(fun x f i i (call f x))", ""},
		{envOf("f i", "x (* i i)"), "(fun g f i i (+ f (fst x)))", "(> i i)"},
		{envOf("f i", "x (* i i)"), "(fun x g i i (+ f (call x g)))", "(> i i)"},
		// A name is bound again within.
		{env{}, "(let a 1 (let a (pair a a) (let a (fst a) a)))", "i"},
		{env{}, "(let a 1 (let a (pair a a) (let a (pair a 2) a)))", "(* (* i i) i)"},
		{env{}, "(fun f x i i (let x (pair x x) (fst x)))", "(> i i)"},
		{env{}, "(fun f x i i (let f x f))", "(> i i)"},
		{env{}, "(fun f x i (> (* i i) i) (fun f x (* i i) i (fst x)))", "(> i (> (* i i) i))"},
		{env{}, "(fun f x i (> (* i i) i) (fun f y (* i i) i (+ x (call f y))))", "(> i (> (* i i) i))"},
		{env{}, "(fun f x i (> (* i i) i) (fun x f (* i i) i (call x f)))", "(> i (> (* i i) i))"},
		{env{}, "(let f (pair 1 2) (fun f x i i (call f x)))", "(> i i)"},
		{env{}, "(let x (pair 1 2) (fun f x i i (fst x)))", ""},
		// Of equal names in an environment, the last one counts.
		{envOf("a (* i i)", "a i"), "(+ a 1)", "i"},
		{envOf("a i", "a (* i i)"), "(+ a 1)", ""},
		{envOf("a i", "a (* i i)"), "(fst a)", "i"},
		{envOf("a i", "a (> i i)", "b i", "a (* i i)", "b (> i i)"), "(call b (fst a))", "i"},
		{envOf("a i", "a (* i i)", "a (> i i)", "a i"), "(let a (pair a a) (fst a))", "i"},
		// In (let x e e1), x is free in e and bound in e1.
		{a, "(let a a a)", "i"},
		{a, "(let a (+ a 1) a)", "i"},
		{envOf("a (* i i)"), "(let a (fst a) (+ a 1))", "i"},
		{envOf("a (* i i)"), "(let a (fst a) (fst a))", ""},
		{envOf("a (* i i)"), "(let a 1 (fst a))", ""},
		{env{}, "(let a a 1)", ""},
		{env{}, "(let a (let a 1 a) a)", "i"},
		{envOf("a (* i i)"), "(let a (let a (snd a) (pair a a)) (fst a))", "i"},
		// The type that a name has behind where its shadowing ended.
		{a, "(pair (let a (pair 1 2) (fst a)) a)", "(* i i)"},
		{a, "(+ (let a (pair 1 2) (fst a)) a)", "i"},
		{a, "(+ (let a (pair 1 2) (fst a)) (fst a))", ""},
		{a, "(let b (let a (pair 1 2) (fst a)) (+ a b))", "i"},
		{a, "(let b (fun f a (* i i) i (fst a)) (+ a 1))", "i"},
		{a, "(call (fun f a (* i i) i (fst a)) (pair a a))", "i"},
		{a, "(call (fun a x (* i i) i (fst x)) (pair a a))", "i"},
		{a, "(if (let a (pair 1 2) (snd a)) (let a (pair a a) (fst a)) a)", "i"},
		{envOf("f i"), "(pair (fun f x i i (call f x)) f)", "(* (> i i) i)"},
		{envOf("x i"), "(pair (fun f x (> i i) i (call x 1)) x)", "(* (> (> i i) i) i)"},
		{env{}, "(let a 1 (pair (let a (pair a a) a) a))", "(* (* i i) i)"},
		{env{}, "(let a (pair 1 2) (let b (let a (fst a) (+ a a)) (+ b (fst a))))", "i"},
		{env{}, "(fun f x i i (+ (let f x f) (call f (let x (pair x 1) (fst x)))))", "(> i i)"},
	}
	for _, c := range cases {
		checkType(t, c.env, c.text, c.want)
	}
}

// Names that are bound within an expression stand behind the environment without its limit.
func TestBindersBehindAFullEnv(t *testing.T) {
	full := eightNames()
	cases := map[string]string{
		"(let y a (+ y a))":                                                    "i",
		"(fun y y1 i i (call y (+ y1 a)))":                                     "(> i i)",
		"(let y a (let y1 b (let y2 i (call y2 y))))":                          "i",
		"(let a b (let b i (call b (fst a))))":                                 "i",
		"(fun y y1 i (> i i) (fun y2 y3 i i (+ a (+ y1 (+ y3 (call y2 0))))))": "(> i (> i i))",
		"z999":                              wideType("*", 15),
		"(let y z999 y)":                    wideType("*", 15),
		"(let z999 0 (let a z999 (+ a 1)))": "i",
	}
	for text, want := range cases {
		checkType(t, full, text, want)
	}
	// As many names as an expression can bind, each for the one ahead of it.
	text := "(+ y0 (+ y37 a))"
	for n := 37; n > 0; n-- {
		text = "(let y" + strconv.Itoa(n) + " y" + strconv.Itoa(n-1) + " " + text + ")"
	}
	checkType(t, full, "(let y0 a "+text+")", "i")
	checkType(t, full, "(let y0 b "+text+")", "")
	checkType(t, env{}, "(let y0 0 "+strings.Replace(text, "y37 a", "y37 y1", 1)+")", "i")
	checkType(t, full, "(fun f x i i "+strings.Repeat("(let x (+ x a) ", 18)+"x"+strings.Repeat(")", 19), "(> i i)")
}

func TestTypesAtTheLimitOfExprs(t *testing.T) {
	seven := typedZero(wideType("*", 7))
	fifteen := "(pair " + seven + " " + seven + ")"
	kind := "(* " + wideType("*", 7) + " " + wideType("*", 7) + ")"
	if len(atomsOf(kind)) != 15 || !impl.TypeValid(kind) {
		t.Fatalf("%q has %d atoms", kind, len(atomsOf(kind)))
	}
	cases := map[string]string{
		fifteen:                        kind,
		"(let x " + fifteen + " x)":    kind,
		"(fst " + fifteen + ")":        wideType("*", 7),
		"(snd (pair 1 " + seven + "))": wideType("*", 7),
		"(fun f x " + wideType(">", 7) + " " + wideType("*", 7) + " " + seven + ")":  "(> " + wideType(">", 7) + " " + wideType("*", 7) + ")",
		"(fun f x " + wideType(">", 13) + " i 0)":                                    "(> " + wideType(">", 13) + " i)",
		"(fun f x i " + wideType("*", 13) + " " + typedZero(wideType("*", 13)) + ")": "(> i " + wideType("*", 13) + ")",
		"(fun f x i i (let y " + fifteen + " x))":                                    "(> i i)",
	}
	for text, want := range cases {
		if !isExpr(text) {
			t.Fatalf("%q is no expression", text)
		}
		checkType(t, env{}, text, want)
	}
	for _, text := range tooWideExprs() {
		if !isExpr(text) {
			t.Fatalf("%q is no expression", text)
		}
		checkType(t, env{}, text, "")
	}
	full := eightNames()
	for _, text := range []string{"(pair f 0)", "(pair 0 z999)", "(fst (pair z999 0))", "(snd (pair z999 0))", "(let y (pair 0 f) 1)", "(fst (pair 0 f))", "(if 0 1 (fst (pair 1 z999)))", "(pair z999 z999)"} {
		checkType(t, full, text, "")
	}
	checkType(t, full, "(pair (fst z999) (call f 0))", "(* i "+wideType(">", 13)+")")
}

func TestExprTypeOfTextsThatAreNone(t *testing.T) {
	for _, text := range sampleExprTexts() {
		if isExpr(text) {
			continue
		}
		for _, e := range []env{{}, envOf("a i"), eightNames()} {
			checkType(t, e, text, "")
		}
		if fault, ok := impl.ExprFault(text); impl.ExprTyped(text) || ok || fault != "" || impl.ExprMany(text) != -1 {
			t.Errorf("%q is typed: %v, has the fault %q, and %d parts", cut(text), impl.ExprTyped(text), fault, impl.ExprMany(text))
		}
	}
}

func TestExprTypeAgreesWithTheOracle(t *testing.T) {
	typed := 0
	for _, text := range sampleTypings() {
		for _, e := range sampleEnvs() {
			want, _ := typingOf(e, text)
			checkType(t, e, text, want)
			if want != "" {
				typed++
			}
		}
	}
	if typed < 5000 {
		t.Errorf("just %d samples have a type", typed)
	}
}

// P25.
func TestTypesOfSamples(t *testing.T) {
	for k, text := range sampleTypings() {
		e := sampleEnvs()[k%len(sampleEnvs())]
		kind, ok := impl.ExprType(e.names, e.types, text)
		if !ok {
			continue
		}
		free, _ := impl.ExprFree(text)
		for _, name := range free {
			if !slices.Contains(e.names, name) {
				t.Errorf("%q has a type without one for %q", cut(text), name)
			}
		}
		if !impl.TypeValid(kind) {
			t.Errorf("%q has the type %q", cut(text), kind)
		}
		plain, _ := impl.ExprPlain(text)
		checkType(t, e, plain, kind)
		for _, name := range []string{"a", "b", "i", "x0", "y"} {
			if len(e.names) < impl.EnvMax && !slices.Contains(free, name) {
				checkType(t, e.with(name, "(> (* i i) i)"), text, kind)
			}
		}
	}
}

// P22: expressions that are alike have a type in the same environment, the same one, or none.
func TestTypesOfExprsThatAreAlike(t *testing.T) {
	r := rand.New(rand.NewSource(9))
	typed := 0
	for k, text := range sampleTypings() {
		e := sampleEnvs()[k%len(sampleEnvs())]
		other := withOthers(r, text)
		kind, _ := impl.ExprType(e.names, e.types, text)
		checkType(t, e, other, kind)
		if kind != "" && other != text {
			typed++
		}
	}
	if typed < 500 {
		t.Errorf("just %d samples that were renamed have a type", typed)
	}
}

// P26.
func TestTypesWithExprsOfTypesPut(t *testing.T) {
	put := 0
	for k, text := range sampleTypings() {
		e := sampleEnvs()[k%len(sampleEnvs())]
		kind, ok := impl.ExprType(e.names, e.types, text)
		free, _ := impl.ExprFree(text)
		for _, name := range free {
			of, _ := impl.ExprOf(e.look(name))
			if result, fits := impl.ExprPut(text, name, of); ok && fits {
				checkType(t, e, result, kind)
				put++
			}
		}
	}
	if put < 500 {
		t.Errorf("just %d names were replaced", put)
	}
}

// P27.
func TestTypedExprs(t *testing.T) {
	typed, closed := 0, 0
	for _, text := range sampleTypings() {
		want, _ := typingOf(env{}, text)
		if impl.ExprTyped(text) != (want != "") {
			t.Errorf("ExprTyped(%q) is %v", cut(text), want == "")
		}
		if impl.ExprClosed(text) {
			closed++
		}
		if want == "" {
			continue
		}
		typed++
		checkType(t, env{}, text, want)
		plain, _ := impl.ExprPlain(text)
		if fault, ok := impl.ExprFault(text); ok || fault != "" || !impl.ExprClosed(text) || !impl.ExprTyped(plain) {
			t.Errorf("%q has the fault %q, is closed: %v, and plain typed: %v", cut(text), fault, impl.ExprClosed(text), impl.ExprTyped(plain))
		}
	}
	if typed < 500 || closed-typed < 500 {
		t.Errorf("%d samples are typed, and %d closed", typed, closed)
	}
	for _, text := range []string{"a", "(+ a 1)", "(let x y 1)", "(fun f x i i y)", "(fst 1)", "(+ 1 (fst 2))", "", "x1234", "(1)"} {
		if impl.ExprTyped(text) {
			t.Errorf("ExprTyped(%q) holds", text)
		}
	}
}

func TestTypingChangesNoArguments(t *testing.T) {
	names, types := []string{"a", "b", "a", "kept"}, []string{"i", "(> i i)", "(* i i)", "kept too"}
	for range 2 {
		if !impl.EnvValid(names[:3], types[:3]) {
			t.Errorf("EnvValid does not hold")
		}
		if kind, ok := impl.EnvLook(names[:3], types[:3], "a"); !ok || kind != "(* i i)" {
			t.Errorf("EnvLook is %q, %v", kind, ok)
		}
		if kind, ok := impl.ExprType(names[:3], types[:3], "(let kept 1 a)"); ok || kind != "" {
			t.Errorf("ExprType of what is no expression is %q, %v", kind, ok)
		}
		if kind, ok := impl.ExprType(names[:3], types[:3], "(let c 1 (let a c (call b a)))"); !ok || kind != "i" {
			t.Errorf("ExprType is %q, %v", kind, ok)
		}
	}
	if !slices.Equal(names, []string{"a", "b", "a", "kept"}) || !slices.Equal(types, []string{"i", "(> i i)", "(* i i)", "kept too"}) {
		t.Errorf("typing made its arguments %q and %q", names, types)
	}
}

func TestTypingResultsAreNewTexts(t *testing.T) {
	name, kind := strings.Clone("a12"), strings.Clone("(> (* i i) (> i i))")
	wrong := strings.Clone("(fst (pair 0 (fun a12 x i i a12)))")
	names, types := []string{name}, []string{kind}
	look, _ := impl.EnvLook(names, types, name)
	same, _ := impl.ExprType(names, types, name)
	told, _ := impl.ExprType(nil, nil, "(fun f x (* i i) (> i i) (fun f x i i 0))")
	of, _ := impl.ExprOf(kind)
	fault, _ := impl.ExprFault(wrong)
	whole, _ := impl.ExprFault("(fst 100)")
	results := []string{look, same, told, of, fault, whole}
	if slices.Contains(results, "") || look != kind || same != kind || told != kind {
		t.Fatalf("the results are %q", results)
	}
	for i, result := range results {
		for _, other := range append([]string{name, kind, wrong}, results[:i]...) {
			if overlaps(other, result) {
				t.Errorf("%q shares memory with %q", result, other)
			}
		}
	}
}
