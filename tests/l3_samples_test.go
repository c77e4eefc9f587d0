package tests

import (
	"math/rand"
	"slices"
	"strconv"
	"strings"
	"sync"
	"testing"

	"loop.example/typedassembly/impl"
)

// env is an environment, or two lists that are none.
type env struct {
	names, types []string
}

// with is the environment with a further name behind.
func (e env) with(name string, kind string) env {
	return env{append(slices.Clone(e.names), name), append(slices.Clone(e.types), kind)}
}

// envOf is an environment of names, each with a space and its type behind.
func envOf(entries ...string) env {
	var e env
	for _, entry := range entries {
		name, kind, _ := strings.Cut(entry, " ")
		e = e.with(name, kind)
	}
	return e
}

// typing is a list of an expression that is not at its end yet: where it begins, its head, the index of the part it is at,
// the names that it binds, both types that a fun tells, and the types of its parts so far.
type typing struct {
	start int
	head  string
	part  int
	names []string
	told  []string
	kinds []string
}

// look is the type of a name that the list binds at the part that it is at, or "".
func (l typing) look(name string) string {
	switch {
	case l.head == "let" && l.part == 3 && l.names[0] == name:
		return l.kinds[0]
	case l.head == "fun" && l.part == 5 && l.names[1] == name:
		return l.told[0]
	case l.head == "fun" && l.part == 5 && l.names[0] == name:
		return "(> " + l.told[0] + " " + l.told[1] + ")"
	}
	return ""
}

// kind is the type of the whole list, or "".
func (l typing) kind() string {
	switch l.head {
	case "+", "-", "*":
		if l.kinds[0] == "i" && l.kinds[1] == "i" {
			return "i"
		}
	case "if":
		if l.kinds[0] == "i" && l.kinds[1] == l.kinds[2] {
			return l.kinds[1]
		}
	case "let":
		return l.kinds[1]
	case "fun":
		if l.kinds[0] == l.told[1] {
			return "(> " + l.told[0] + " " + l.told[1] + ")"
		}
	case "call":
		if to, ok := strings.CutPrefix(l.kinds[0], "(> "+l.kinds[1]+" "); ok {
			return strings.TrimSuffix(to, ")")
		}
	case "pair":
		if made := "(* " + l.kinds[0] + " " + l.kinds[1] + ")"; len(atomsOf(made)) <= impl.TypeMax {
			return made
		}
	case "fst", "snd":
		if sides, ok := strings.CutPrefix(l.kinds[0], "(* "); ok {
			first := spanOf(sides, 0)
			return map[string]string{"fst": first, "snd": spanOf(sides, len(first)+1)}[l.head]
		}
	}
	return ""
}

// spanOf is the form that begins at an index of a text.
func spanOf(text string, at int) string {
	if text[at] != '(' {
		return atomPattern.FindString(text[at:])
	}
	open := 0
	for i := at; ; i++ {
		switch text[i] {
		case '(':
			open++
		case ')':
			open--
		}
		if open == 0 {
			return text[at : i+1]
		}
	}
}

// typingOf is the type of an expression in an environment, or its fault, going through the text from its beginning to its end,
// without making a tree of it: what has no type shows where it ends, and a fun whose type is none as soon as it is told.
func typingOf(e env, text string) (kind string, fault string) {
	var lists []typing
	for at := 0; ; at++ {
		kind = ""
		top := len(lists) - 1
		switch text[at] {
		case '(':
			lists = append(lists, typing{start: at})
			continue
		case ' ':
			lists[top].part++
			if lists[top].head == "fun" && lists[top].part == 3 {
				told := toldTypes(text, at+1)
				if len(atomsOf(told[0]))+len(atomsOf(told[1]))+1 > impl.TypeMax {
					return "", spanOf(text, lists[top].start)
				}
				lists[top].told = told
				lists[top].part = 5
				at += len(" ") + len(told[0]) + len(" ") + len(told[1])
			}
			continue
		case ')':
			last := lists[top]
			lists = lists[:top]
			if kind = last.kind(); kind == "" {
				return "", text[last.start : at+1]
			}
		default:
			atom := spanOf(text, at)
			at += len(atom) - 1
			if top >= 0 && lists[top].part == 0 {
				lists[top].head = atom
				continue
			}
			if top >= 0 && (lists[top].head == "let" && lists[top].part == 1 || lists[top].head == "fun" && lists[top].part < 3) {
				lists[top].names = append(lists[top].names, atom)
				continue
			}
			if kind = kindOfAtom(e, lists, atom); kind == "" {
				return "", atom
			}
		}
		if len(lists) == 0 {
			return kind, ""
		}
		inner := &lists[len(lists)-1]
		inner.kinds = append(inner.kinds, kind)
	}
}

// toldTypes are both types that a fun tells, the first of which begins at an index.
func toldTypes(text string, at int) []string {
	first := spanOf(text, at)
	return []string{first, spanOf(text, at+len(first)+1)}
}

func kindOfAtom(e env, lists []typing, atom string) string {
	if numeralOnly.MatchString(atom) {
		return "i"
	}
	for _, list := range slices.Backward(lists) {
		if kind := list.look(atom); kind != "" {
			return kind
		}
	}
	return e.look(atom)
}

// look is the type of a name of an environment, or "".
func (e env) look(name string) string {
	for i, other := range slices.Backward(e.names) {
		if other == name {
			return e.types[i]
		}
	}
	return ""
}

// manyOf is how many of an expression and its parts there are: one for each atom that is no head, no name that is bound there and no type, and one for each list.
func manyOf(text string) int {
	for at := 0; at < len(text); at++ {
		if strings.HasPrefix(text[at:], "(fun ") {
			start := at + len("(fun ")
			start += len(spanOf(text, start)) + 1
			start += len(spanOf(text, start))
			told := toldTypes(text, start+1)
			text = text[:start] + text[start+len(told[0])+len(told[1])+2:]
		}
	}
	return len(atomsOf(text)) - 2*strings.Count(text, "(fun ") - strings.Count(text, "(let ")
}

// eightNames is an environment of as many names as it can have, of several types.
func eightNames() env {
	return envOf("a i", "b (* i i)", "i (> i i)", "x0 i", "x1 (> i (* i i))", "x12 (> (> i i) i)", "f "+wideType(">", 15), "z999 "+wideType("*", 15))
}

// sampleEnvs are environments in which the names of the samples have many types.
func sampleEnvs() []env {
	return []env{
		{},
		envOf("a i"),
		envOf("a i", "b i"),
		envOf("a i", "b (> i i)", "a (* i i)"),
		envOf("b i", "b (* i i)", "a (> (* i i) i)", "b (> i (* i i))"),
		envOf("a i", "b i", "i i", "x0 i", "x1 i", "x12 i"),
		eightNames(),
		envOf("a i", "a (> i i)", "a (* i i)", "a i", "a (> i i)", "a i", "b (> i i)", "b (* i i)"),
	}
}

// faultEnvs are lists that are no environment, each by one fault.
func faultEnvs() []env {
	faults := []env{
		{[]string{"a"}, nil},
		{nil, []string{"i"}},
		{[]string{"a", "b"}, []string{"i"}},
		{[]string{"a"}, []string{"i", "i"}},
		eightNames().with("y", "i"),
		eightNames().with("a", "i"),
		{slices.Repeat([]string{"a"}, impl.EnvMax+1), slices.Repeat([]string{"i"}, impl.EnvMax+1)},
		{eightNames().with("y", "i").names, eightNames().types},
		{eightNames().names, eightNames().with("y", "i").types},
		{slices.Repeat([]string{"a"}, 100000), slices.Repeat([]string{"i"}, 100000)},
	}
	for _, text := range append(noNames(), fixedFaults()...) {
		faults = append(faults, env{[]string{text}, []string{"i"}}, env{[]string{"a", "b", text}, []string{"i", "i", "i"}}, env{[]string{text, "a"}, []string{"i", "i"}})
	}
	for _, text := range append(append(noTypes(), fixedFaults()...), wideType(">", 17), wideType("*", 17)) {
		faults = append(faults, env{[]string{"a"}, []string{text}}, env{[]string{"a", "b"}, []string{"i", text}}, env{[]string{"a", "a"}, []string{text, "i"}})
	}
	return faults
}

// typedExpr is an expression of a type in an environment, of at most some depth but for what its type needs; its few names are bound again and again.
func typedExpr(r *rand.Rand, e env, kind string, depth int) string {
	if depth == 0 || r.Intn(6) == 0 {
		if bare := bareOfType(r, e, kind); bare != "" {
			return bare
		}
		return exprMadeOfType(r, e, kind, 0)
	}
	part := func(kind string) string { return typedExpr(r, e, kind, depth-1) }
	other := randomType(r, 1)
	switch r.Intn(9) {
	case 0, 1, 2:
		name := randomName(r)
		return "(let " + name + " " + part(other) + " " + typedExpr(r, e.with(name, other), kind, depth-1) + ")"
	case 3:
		return "(if " + part("i") + " " + part(kind) + " " + part(kind) + ")"
	case 4:
		return "(call " + part("(> "+other+" "+kind+")") + " " + part(other) + ")"
	case 5:
		return "(fst " + part("(* "+kind+" "+other+")") + ")"
	case 6:
		return "(snd " + part("(* "+other+" "+kind+")") + ")"
	}
	return exprMadeOfType(r, e, kind, depth-1)
}

func randomName(r *rand.Rand) string {
	names := []string{"a", "b", "i", "x0", "x1"}
	return names[r.Intn(len(names))]
}

// bareOfType is a name of an environment that has a type, or "".
func bareOfType(r *rand.Rand, e env, kind string) string {
	for _, i := range r.Perm(len(e.names)) {
		if e.look(e.names[i]) == kind {
			return e.names[i]
		}
	}
	return ""
}

// exprMadeOfType is an expression with the head that its type tells, or a numeral.
func exprMadeOfType(r *rand.Rand, e env, kind string, depth int) string {
	if kind == "i" && depth == 0 {
		return strconv.Itoa(r.Intn(1999) - 999)
	}
	if kind == "i" {
		return "(" + []string{"+", "-", "*"}[r.Intn(3)] + " " + typedExpr(r, e, "i", depth-1) + " " + typedExpr(r, e, "i", depth-1) + ")"
	}
	below := max(depth-1, 0)
	sides := toldTypes(kind, len("(> "))
	if kind[1] == '*' {
		return "(pair " + typedExpr(r, e, sides[0], below) + " " + typedExpr(r, e, sides[1], below) + ")"
	}
	f, x := randomName(r), randomName(r)
	for f == x {
		x = randomName(r)
	}
	body := typedExpr(r, e.with(f, kind).with(x, sides[0]), sides[1], below)
	return "(fun " + f + " " + x + " " + sides[0] + " " + sides[1] + " " + body + ")"
}

// swappedParts is an expression with one of its lists or atoms in the place of another one.
func swappedParts(r *rand.Rand, text string) string {
	return withPart(r, text, spanOf(text, randomStart(r, text)))
}

// withPart is an expression with a text in the place of one of its lists or atoms.
func withPart(r *rand.Rand, text string, part string) string {
	at := randomStart(r, text)
	return text[:at] + part + text[at+len(spanOf(text, at)):]
}

// randomStart is the index at which a list or an atom of a form begins.
func randomStart(r *rand.Rand, text string) int {
	var starts []int
	for at := range len(text) {
		if text[at] != ' ' && text[at] != ')' && (at == 0 || strings.Contains("( ", text[at-1:at])) {
			starts = append(starts, at)
		}
	}
	return starts[r.Intn(len(starts))]
}

// tooWideExprs are expressions that meet a type of more than TypeMax atoms on the way, and would have a type but for this.
func tooWideExprs() []string {
	seven, wide := typedZero(wideType("*", 7)), typedZero(wideType("*", 15))
	pair := "(pair " + seven + " (pair 0 " + seven + "))"
	fun := "(fun f x " + wideType("*", 7) + " " + wideType("*", 9) + " " + typedZero(wideType("*", 9)) + ")"
	return []string{
		pair, "(fst " + pair + ")", "(fst (fst " + pair + "))", "(fst (snd " + pair + "))", "(let x " + pair + " 0)", "(let x " + pair + " (fst (fst x)))", "(if 0 1 (let x " + pair + " 1))",
		"(pair " + wide + " 0)", "(pair 0 " + wide + ")", "(snd (pair " + wide + " 0))", "(fst (pair 0 " + wide + "))",
		fun, "(call " + fun + " " + seven + ")", "(fst (call " + fun + " " + seven + "))", "(let g " + fun + " 0)", "(let x 0 (let g " + fun + " x))",
		"(fun f x " + wideType(">", 15) + " i 0)", "(fun f x i " + wideType(">", 15) + " x)", "(let g (fun f x " + wideType("*", 15) + " " + wideType(">", 15) + " 0) 1)",
		"(fun f x i i (let g (fun g y i " + wideType(">", 15) + " x) x))",
	}
}

// typedZero is an expression of a type that is made of pairs alone.
func typedZero(kind string) string {
	return strings.NewReplacer("*", "pair", "i", "0").Replace(kind)
}

// sampleTypings are expressions, most of which have a type in one of the sample environments, or nearly so.
func sampleTypings() []string {
	return slices.Clone(onceTypings())
}

var onceTypings = sync.OnceValue(func() []string {
	texts := append(fixedExprs(), tooWideExprs()...)
	r := rand.New(rand.NewSource(7))
	for k, text := range smallExprs() {
		if k%5 == 0 {
			texts = append(texts, text)
		}
	}
	envs := sampleEnvs()
	for k := range 2500 {
		e := typedExpr(r, envs[k%len(envs)], randomType(r, 2), 1+r.Intn(4))
		texts = append(texts, e, swappedParts(r, e), swappedAtoms(r, e), randomExpr(r, 1+r.Intn(3)))
		closed := typedExpr(r, env{}, randomType(r, 2), 1+r.Intn(4))
		for _, part := range []string{"0", "(pair 0 0)", "(fun f x i i 0)"} {
			texts = append(texts, withPart(r, closed, part))
		}
	}
	return slices.DeleteFunc(texts, func(text string) bool { return !isExpr(text) })
})

func TestOracleKnowsTypes(t *testing.T) {
	cases := [][3]string{
		{"(pair a (fst b))", "(* i i)", ""},
		{"(fun f x i (* i i) (pair x (fst (call f x))))", "(> i (* i i))", ""},
		{"(call (fun f x (> i i) (* i i) (call x1 (call x a))) i)", "(* i i)", ""},
		{"(let a b (snd a))", "i", ""},
		{"(pair (let a b (snd a)) (+ a a))", "(* i i)", ""},
		{"(pair (let a b a) (+ a b))", "", "(+ a b)"},
		{"(fun f x i i f)", "", "(fun f x i i f)"},
		{"(+ 1 (fst (call y 2)))", "", "y"},
		{"(pair 1 (fun f x i " + wideType(">", 15) + " (fst 1)))", "", "(fun f x i " + wideType(">", 15) + " (fst 1))"},
	}
	for _, c := range cases {
		if kind, fault := typingOf(eightNames(), c[0]); kind != c[1] || fault != c[2] {
			t.Errorf("the oracle takes %q for %q, with the fault %q", c[0], kind, fault)
		}
	}
	if many := manyOf("(let a (fun f x (> i i) (* i i) (call f x)) (if a -1 a))"); many != 9 {
		t.Errorf("the oracle counts %d expressions", many)
	}
	if zero := typedZero("(* i (* (* i i) i))"); zero != "(pair 0 (pair (pair 0 0) 0))" {
		t.Errorf("the expression of a type is %q", zero)
	}
}
