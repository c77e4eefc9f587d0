package tests

import (
	"math/rand"
	"regexp"
	"slices"
	"strconv"
	"strings"
	"testing"

	"loop.example/typedassembly/impl"
)

// fixedExprs are expressions at the edges of what an expression is.
func fixedExprs() []string {
	return []string{
		"a", "z", "i", "x12", "a000", "x999", "0", "1", "-1", "999", "-999", "10", "-100",
		"(+ 1 2)", "(- a -1)", "(* i i)", "(if 0 1 2)", "(if a b c)", "(call f x)", "(pair 1 a)", "(fst a)", "(snd 0)",
		"(let x 1 x)", "(let i i i)", "(let x x x)", "(fun f x i i x)", "(fun i a i i i)", "(fun a i (> i i) (* i i) (* a i))",
		"(fst (snd (pair (pair 1 2) 3)))", "(call (call f 1) 2)", "(let a (let a a a) (let a a a))",
		"(let x0 x1 (let x1 x0 (+ x0 (+ x1 x2))))", "(fun x1 x0 i i (pair x0 x1))", "(fun f x i i (fun x f i i (call f x)))",
		"(fun f x i i (fun f y i i (let x x (call f (+ x y)))))", "(pair (fun f x i i x) (pair f x))", "(+ (let a 1 a) x0)",
		"(fun f x " + wideType(">", 15) + " " + wideType("*", 15) + " x)",
		sumOf(60, "1"), "(fst " + sumOf(60, "a") + ")", inFsts(impl.DepthMax, "a"), inFsts(impl.DepthMax, "-999"),
		inFsts(impl.DepthMax-1, "(let a a a)"), inLets(39), inFuns(23), wideFuns(sumOf(11, "x")),
	}
}

// fixedExprFaults are texts that are no expressions, most of them forms, each by one fault.
func fixedExprFaults() []string {
	return append(fixedFaults(),
		"x1234", "1a", "X", "-0", "00", "1000", "-1000", "+1", "-", "+", "*", ">", "aa", "ab1", "a1b", "a-1", "1-", "--1", "-01", "01", "1-1", "-a", "a0000", "-0000",
		"if", "let", "fun", "call", "pair", "fst", "snd", "name", "number",
		"(a)", "(1)", "((a))", "(a b)", "(1 2)", "(f x)", "(name a)", "(number 1)", "((+ 1 2))", "((+) 1 2)", "((fst) a)", "((let x 1 x) 1 2)",
		"(+)", "(+ 1)", "(+ 1 2 3)", "(-)", "(- 1)", "(- 1 2 3)", "(*)", "(* 1)", "(* 1 2 3)", "(> 1 2)", "(> i i)", "(/ 1 2)", "(++ 1 2)", "(add 1 2)", "(1 + 2)", "(1 2 +)",
		"(if)", "(if 1)", "(if 1 2)", "(if 1 2 3 4)", "(call)", "(call f)", "(call f 1 2)", "(pair)", "(pair 1)", "(pair 1 2 3)",
		"(fst)", "(fst 1 2)", "(snd)", "(snd 1 2)", "(fst 1 2 3)", "(snd ())", "(fst (a))", "(fst fst)", "(call fst 1)", "(pair let 1)",
		"(let)", "(let x)", "(let x 1)", "(let x 1 x x)", "(let 1 1 1)", "(let -1 1 x)", "(let (x) 1 x)", "(let fst 1 1)", "(let x1234 1 1)", "(let + 1 1)", "(let aa 1 1)", "(let x let 1)", "(let x 1 let)", "(let x (a) 1)", "(let x 1 (a))", "(let 1 x x)", "(let (fst x) 1 x)",
		"(fun)", "(fun f)", "(fun f x)", "(fun f x i)", "(fun f x i i)", "(fun f x i i 1 2)", "(fun x i i x)", "(fun f x i i i x)",
		"(fun f f i i f)", "(fun x x i i 1)", "(fun a0 a0 i i 1)", "(fun 1 x i i x)", "(fun f 1 i i f)", "(fun (f) x i i x)", "(fun f (x) i i x)", "(fun fun x i i x)", "(fun f x1234 i i 1)", "(fun ff x i i x)",
		"(fun f x a i x)", "(fun f x i a x)", "(fun f x 1 i x)", "(fun f x i 1 x)", "(fun f x (i) i x)", "(fun f x i (i) x)", "(fun f x (> i) i x)", "(fun f x i (* i i i) x)", "(fun f x (+ i i) i x)", "(fun f x i (- i i) x)", "(fun f x (> i a) i x)", "(fun f x i (* 1 i) x)", "(fun f x > i x)", "(fun f x i * x)",
		"(fun f x "+wideType(">", 17)+" i x)", "(fun f x i "+wideType("*", 17)+" x)", "(fun f x "+wideType(">", 15)+" "+wideType("*", 17)+" x)",
		"(fun f x i i fun)", "(fun f x i i (x))", "(fun f x x i i)", "(let x 1 (fun f f i i 1))", "(+ 1 (+ 1 (let 1 1 1)))", "(if 1 2 (if 1 2))", "(fst (> i i))", "(+ (> i i) 1)",
		sumOf(61, "1"), "(fst (fst "+sumOf(60, "a")+"))", inFsts(impl.DepthMax+1, "a"), inFsts(impl.DepthMax, "(fst a)"), inLets(40), inFuns(24), wideFuns("(snd "+sumOf(11, "x")+")"),
	)
}

// sumOf is a sum of as many equal expressions, which is not deep.
func sumOf(n int, e string) string {
	if n == 1 {
		return e
	}
	return "(+ " + sumOf(n/2, e) + " " + sumOf(n-n/2, e) + ")"
}

func inFsts(n int, e string) string {
	return strings.Repeat("(fst ", n) + e + strings.Repeat(")", n)
}

// inLets binds as many names, each time for another free name, and has 3 atoms for each one and 1 more.
func inLets(n int) string {
	text := "a"
	for i := n - 1; i >= 0; i-- {
		text = "(let a x" + strconv.Itoa(i) + " " + text + ")"
	}
	return text
}

// inFuns binds twice as many names, and has 5 atoms for each function and 1 more.
func inFuns(n int) string {
	return strings.Repeat("(fun f x i i ", n) + "f" + strings.Repeat(")", n)
}

// wideFuns are three functions with the largest types, of 99 atoms but for the body.
func wideFuns(body string) string {
	fun := "(fun f x " + wideType(">", 15) + " " + wideType("*", 15) + " "
	return strings.Repeat(fun, 3) + body + ")))"
}

// smallExprs are expressions in which just two names are bound and free in many ways.
func smallExprs() []string {
	bare := []string{"a", "b", "1"}
	first := layer(bare, bare, bare)
	return append(append(bare, first...), layer(bare, first, first)...)
}

// layer puts some values and some bodies below heads.
func layer(bare []string, values []string, bodies []string) []string {
	var exprs []string
	for _, body := range bodies {
		for _, value := range bare {
			exprs = append(exprs, "(let a "+value+" "+body+")", "(let b "+value+" "+body+")", "(pair "+value+" "+body+")")
		}
		exprs = append(exprs, "(fun a b i i "+body+")", "(fun b a i i "+body+")", "(snd "+body+")")
	}
	for _, value := range values {
		exprs = append(exprs, "(let a "+value+" b)", "(let b "+value+" b)", "(if a "+value+" b)")
	}
	return exprs
}

// randomExpr is an expression of at most some depth, or what would be one but for ExprMax; its few names are bound again and again.
func randomExpr(r *rand.Rand, depth int) string {
	names := []string{"a", "b", "i", "x0", "x1", "x12"}
	name := r.Intn(len(names))
	if depth == 0 || r.Intn(6) == 0 {
		if r.Intn(4) == 0 {
			return strconv.Itoa(r.Intn(1999) - 999)
		}
		return names[name]
	}
	e := func() string { return randomExpr(r, depth-1) }
	switch r.Intn(9) {
	case 0:
		return "(" + []string{"+", "-", "*"}[r.Intn(3)] + " " + e() + " " + e() + ")"
	case 1:
		return "(if " + e() + " " + e() + " " + e() + ")"
	case 2:
		return "(" + []string{"fst", "snd"}[r.Intn(2)] + " " + e() + ")"
	case 3:
		return "(" + []string{"call", "pair"}[r.Intn(2)] + " " + e() + " " + e() + ")"
	case 4, 5, 6:
		return "(let " + names[name] + " " + e() + " " + e() + ")"
	}
	arg := names[(name+1+r.Intn(len(names)-1))%len(names)]
	return "(fun " + names[name] + " " + arg + " " + randomType(r, 2) + " " + randomType(r, 2) + " " + e() + ")"
}

// sampleExprTexts are expressions and other texts: the fixed ones, small ones, and random ones, the same in each run.
func sampleExprTexts() []string {
	texts := append(fixedExprs(), fixedExprFaults()...)
	texts = append(texts, smallExprs()...)
	r := rand.New(rand.NewSource(3))
	for range 1000 {
		e := randomExpr(r, 2+r.Intn(4))
		texts = append(texts, e, spoiled(r, e), swappedAtoms(r, e))
	}
	return texts
}

// sampleExprs are those of the sample texts that the oracle takes for expressions.
func sampleExprs() []string {
	return slices.DeleteFunc(sampleExprTexts(), func(text string) bool { return !isExpr(text) })
}

// swappedAtoms is a form with one of its atoms in the place of another one.
func swappedAtoms(r *rand.Rand, text string) string {
	spans := atomPattern.FindAllStringIndex(text, -1)
	to, from := spans[r.Intn(len(spans))], spans[r.Intn(len(spans))]
	return text[:to[0]] + text[from[0]:from[1]] + text[to[1]:]
}

var (
	nameOnly    = regexp.MustCompile(`^[a-z][0-9]{0,3}$`)
	numeralOnly = regexp.MustCompile(`^(0|-?[1-9][0-9]{0,2})$`)
	innerList   = regexp.MustCompile(`\([^()]*\)`)
	typeMark    = regexp.MustCompile(`^E?T([0-9]+)$`)
)

// isExpr tells what an expression is by another way than reading it from the outside: it makes lists without lists marks,
// again and again; a mark tells whether the list is an expression (E), and of how many atoms it is if it is a type (T).
func isExpr(text string) bool {
	if !isForm(text) || len(atomsOf(text)) > impl.ExprMax {
		return false
	}
	for strings.Contains(text, "(") {
		text = innerList.ReplaceAllStringFunc(text, markOf)
	}
	return isExprMark(text)
}

func markOf(list string) string {
	items := strings.Split(strings.Trim(list, "()"), " ")
	mark := ""
	if isExprList(items) {
		mark = "E"
	}
	if n := typeSizeOfList(items); n > 0 {
		mark += "T" + strconv.Itoa(n)
	}
	if mark == "" {
		return "N"
	}
	return mark
}

func isExprMark(mark string) bool {
	return nameOnly.MatchString(mark) || numeralOnly.MatchString(mark) || mark[0] == 'E'
}

func isExprList(items []string) bool {
	rest := items[1:]
	counts := map[string]int{"+": 2, "-": 2, "*": 2, "call": 2, "pair": 2, "fst": 1, "snd": 1, "if": 3}
	switch items[0] {
	case "let":
		if len(rest) != 3 || !nameOnly.MatchString(rest[0]) {
			return false
		}
		rest = rest[1:]
	case "fun":
		if len(rest) != 5 || !nameOnly.MatchString(rest[0]) || !nameOnly.MatchString(rest[1]) || rest[0] == rest[1] {
			return false
		}
		if !isTypeMark(rest[2]) || !isTypeMark(rest[3]) {
			return false
		}
		rest = rest[4:]
	default:
		if n, ok := counts[items[0]]; !ok || n != len(rest) {
			return false
		}
	}
	return !slices.ContainsFunc(rest, func(mark string) bool { return !isExprMark(mark) })
}

func typeSizeOfList(items []string) int {
	if len(items) != 3 || items[0] != ">" && items[0] != "*" || typeSize(items[1]) == 0 || typeSize(items[2]) == 0 {
		return 0
	}
	return 1 + typeSize(items[1]) + typeSize(items[2])
}

func typeSize(mark string) int {
	if mark == "i" {
		return 1
	}
	if found := typeMark.FindStringSubmatch(mark); found != nil {
		n, _ := strconv.Atoi(found[1])
		return n
	}
	return 0
}

func isTypeMark(mark string) bool {
	return 0 < typeSize(mark) && typeSize(mark) <= impl.TypeMax
}

// place is an atom of an expression: where it stands in the text, and what it is there.
type place struct {
	start, end int
	atom       string
	role       string // "bind", "bound" or "free" of a name, and otherwise ""
	binder     int    // which name, of all that are bound in the text, one that is bound is
}

// open is a list that is not at its end yet: its head, the index of the part it is at, and the names that it binds.
type open struct {
	head   string
	part   int
	names  []string
	binder int
}

// binds tells whether the part that the list is at is one in which its names are bound.
func (o open) binds() bool {
	return o.head == "let" && o.part == 3 || o.head == "fun" && o.part == 5
}

// placesOf tells what the atoms of an expression are, going through the text from its beginning to its end, without making a tree of it.
func placesOf(text string) []place {
	var places []place
	var lists []open
	binders := 0
	for at := 0; at < len(text); at++ {
		switch text[at] {
		case '(':
			lists = append(lists, open{})
		case ')':
			lists = lists[:len(lists)-1]
		case ' ':
			lists[len(lists)-1].part++
		default:
			end := at + len(atomPattern.FindString(text[at:]))
			p := place{start: at, end: end, atom: text[at:end]}
			p.role, p.binder = roleOf(p.atom, lists)
			if p.role == "bind" {
				list := &lists[len(lists)-1]
				if len(list.names) == 0 {
					list.binder = binders
				}
				list.names = append(list.names, p.atom)
				p.binder = binders
				binders++
			}
			if len(lists) > 0 && lists[len(lists)-1].part == 0 {
				lists[len(lists)-1].head = p.atom
			}
			places = append(places, p)
			at = end - 1
		}
	}
	return places
}

func roleOf(atom string, lists []open) (string, int) {
	isInType := func(o open) bool { return o.head == "fun" && (o.part == 3 || o.part == 4) }
	if !nameOnly.MatchString(atom) || slices.ContainsFunc(lists, isInType) {
		return "", 0
	}
	if n := len(lists); n > 0 {
		inner := lists[n-1]
		if inner.head == "let" && inner.part == 1 || inner.head == "fun" && inner.part <= 2 {
			return "bind", 0
		}
	}
	for _, list := range slices.Backward(lists) {
		if i := slices.Index(list.names, atom); i >= 0 && list.binds() {
			return "bound", list.binder + i
		}
	}
	return "free", 0
}

// freeOf are the names that stand free in an expression, once for each place, in order.
func freeOf(text string) []string {
	var names []string
	for _, p := range placesOf(text) {
		if p.role == "free" {
			names = append(names, p.atom)
		}
	}
	return names
}

// withPlaces is an expression with another text for each of its atoms.
func withPlaces(text string, change func(place) string) string {
	var out strings.Builder
	at := 0
	for _, p := range placesOf(text) {
		out.WriteString(text[at:p.start] + change(p))
		at = p.end
	}
	return out.String() + text[at:]
}

// withoutNames is an expression with marks for all names that are not free, equal for expressions that are alike and for no others.
func withoutNames(text string) string {
	return withPlaces(text, func(p place) string {
		if p.role == "bind" || p.role == "bound" {
			return "#" + strconv.Itoa(p.binder)
		}
		return p.atom
	})
}

// plainOf is the plain expression.
func plainOf(text string) string {
	free := freeOf(text)
	var plain []string
	for i := range 2 * impl.ExprMax {
		if name := "x" + strconv.Itoa(i); !slices.Contains(free, name) {
			plain = append(plain, name)
		}
	}
	return withPlaces(text, func(p place) string {
		if p.role == "bind" || p.role == "bound" {
			return plain[p.binder]
		}
		return p.atom
	})
}

// withPut is an expression, or what would be one but for its limits, with another one put for a name.
func withPut(text string, name string, by string) string {
	return withPlaces(text, func(p place) string {
		if p.role == "free" && p.atom == name {
			return by
		}
		return p.atom
	})
}

// withOthers is an expression that is alike, with names that are bound renamed to random ones, free ones among them.
func withOthers(r *rand.Rand, text string) string {
	others := []string{"a", "b", "i", "x0", "x1", "x2", "y", "z999"}
	for range 20 {
		names := make([]string, impl.ExprMax)
		for i := range names {
			names[i] = others[r.Intn(len(others))]
		}
		renamed := withPlaces(text, func(p place) string {
			if p.role == "bind" || p.role == "bound" {
				return names[p.binder]
			}
			return p.atom
		})
		if isExpr(renamed) && withoutNames(renamed) == withoutNames(text) {
			return renamed
		}
	}
	return text
}

func TestOracleKnowsTheFixedExprs(t *testing.T) {
	for _, text := range fixedExprs() {
		if !isExpr(text) {
			t.Errorf("the oracle does not take %q for an expression", cut(text))
		}
	}
	for _, text := range fixedExprFaults() {
		if isExpr(text) {
			t.Errorf("the oracle takes %q for an expression", cut(text))
		}
	}
	if got := withoutNames("(fun f x i i (let x (+ x y) (pair f (pair x i))))"); got != "(fun #0 #1 i i (let #2 (+ #1 y) (pair #0 (pair #2 i))))" {
		t.Errorf("the oracle takes names for %q", got)
	}
}
