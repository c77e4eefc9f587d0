package tests

import (
	"math/rand"
	"slices"
	"strconv"
	"strings"
	"sync"
	"testing"
)

// standing is where a list of an expression stands: its head, the head of the list around it, or "", and the index of the part there.
type standing struct {
	head, around string
	part         int
}

// standingsOf tells where all lists of an expression stand but those of types, going through the text from its beginning to its end.
func standingsOf(text string) []standing {
	var found []standing
	var lists []open
	for at := 0; at < len(text); at++ {
		switch text[at] {
		case '(':
			s := standing{head: spanOf(text, at+1)}
			if n := len(lists); n > 0 {
				s.around, s.part = lists[n-1].head, lists[n-1].part
			}
			if s.around == "fun" && s.part < 5 {
				at += len(spanOf(text, at)) - 1
				continue
			}
			found = append(found, s)
			lists = append(lists, open{head: s.head})
		case ')':
			lists = lists[:len(lists)-1]
		case ' ':
			lists[len(lists)-1].part++
		}
	}
	return found
}

// shapeOf tells what a text is, the first one that holds: "" for no expression, "bare", "simple", "normal" or "other". It does not ask what the
// parts are, but whether each list stands where one may.
func shapeOf(text string) string {
	if !isExpr(text) {
		return ""
	}
	for _, s := range standingsOf(text) {
		bound := s.around == "let" && s.part == 2 && s.head != "let"
		last := s.around == "let" && s.part == 3 || s.around == "if" && s.part > 1 || s.around == "fun"
		if s.around != "" && !bound && !last {
			return "other"
		}
	}
	switch {
	case text[0] != '(':
		return "bare"
	case strings.HasPrefix(text, "(let "):
		return "normal"
	}
	return "simple"
}

// ahead are the bindings that the oracle noted: their text, and how many parentheses are to be closed behind.
type ahead struct {
	text  string
	close int
}

func (a *ahead) note(name string, simple string) {
	a.text += "(let " + name + " " + simple + " "
	a.close++
}

// normalOracle makes an expression normal in one pass over its text, without making a tree of it: it keeps the parts so far of all
// lists that are not at their end, as they become, and the bindings of all that is being made normal.
type normalOracle struct {
	text  string
	lists [][]string
	aside []ahead
	next  int
}

// opened begins what is to be made normal, if the next part of the innermost list is.
func (o *normalOracle) opened() {
	parts := o.lists[len(o.lists)-1]
	if parts[0] == "if" && len(parts) > 1 && len(parts) < 4 || parts[0] == "fun" && len(parts) == 5 {
		o.aside = append(o.aside, ahead{})
	}
}

// closed is what became simple with all bindings that were noted for it.
func (o *normalOracle) closed(simple string) string {
	last := len(o.aside) - 1
	a := o.aside[last]
	o.aside = o.aside[:last]
	return a.text + simple + strings.Repeat(")", a.close)
}

func (o *normalOracle) bare(simple string) string {
	if simple[0] != '(' {
		return simple
	}
	for {
		name := "y" + strconv.Itoa(o.next)
		o.next++
		if !slices.Contains(atomsOf(o.text), name) {
			o.aside[len(o.aside)-1].note(name, simple)
			return name
		}
	}
}

// becomes is what a part becomes that became simple, as the next one of the innermost list.
func (o *normalOracle) becomes(simple string) string {
	parts := o.lists[len(o.lists)-1]
	k := len(parts)
	switch {
	case k == 0 || parts[0] == "let" && k == 1 || parts[0] == "fun" && k < 5:
		return simple
	case parts[0] == "let" && k == 2:
		o.aside[len(o.aside)-1].note(parts[1], simple)
		return ""
	case parts[0] == "let":
		return simple
	case parts[0] == "fun" || parts[0] == "if" && k > 1:
		return o.closed(simple)
	}
	return o.bare(simple)
}

// run is the normal expression, or what would be one but for its limits.
func (o *normalOracle) run() string {
	o.aside = []ahead{{}}
	for at := 0; ; at++ {
		var simple string
		top := len(o.lists) - 1
		switch {
		case o.text[at] == ' ':
			o.opened()
			continue
		case o.text[at] == ')':
			parts := o.lists[top]
			o.lists = o.lists[:top]
			simple = "(" + strings.Join(parts, " ") + ")"
			if parts[0] == "let" {
				simple = parts[3]
			}
		case o.text[at] == '(' && !(top >= 0 && o.lists[top][0] == "fun" && len(o.lists[top]) < 5):
			o.lists = append(o.lists, nil)
			continue
		default:
			simple = spanOf(o.text, at)
			at += len(simple) - 1
		}
		if len(o.lists) == 0 {
			return o.closed(simple)
		}
		top = len(o.lists) - 1
		o.lists[top] = append(o.lists[top], o.becomes(simple))
	}
}

// normalOf is the normal expression that is made of an expression, or "" if that is none.
func normalOf(text string) string {
	o := normalOracle{text: plainOf(text)}
	made := o.run()
	if !isExpr(made) {
		return ""
	}
	return made
}

// inParts are expressions with # where a part stands, each kind of part that an expression can have.
func inParts() []string {
	return []string{
		"(let a # a)", "(let a # (+ a b))", "(let a # 7)", "(let a 1 #)", "(let b a #)", "(let a # #)", "(let y0 # (let a y0 #))",
		"(+ # 1)", "(+ a #)", "(- # #)", "(* y0 #)", "(call # 1)", "(call a #)", "(call # #)", "(pair # b)", "(pair 1 #)", "(pair # #)", "(fst #)", "(snd #)",
		"(if # 1 a)", "(if 0 # 2)", "(if a 1 #)", "(if # # #)", "(fun a b i i #)", "(fun y0 y1 i i #)", "(call (fun b a i i #) #)", "(fun f x (> i i) (* i i) (let a # a))",
	}
}

// filled are expressions within each other, as deep as a number tells: from each of those that are one less deep, one in some.
func filled(levels int, some int) []string {
	texts := []string{"a", "1", "y0", "(let b 2 b)", "(let a b (+ a y1))", "(+ a b)", "(fst x0)", "(fun f x i i (+ x (* x x)))", "(if (+ a 1) (* 2 (- 3 4)) x1)"}
	for level := range levels {
		var next []string
		for i, around := range inParts() {
			for k, text := range texts {
				if level == 0 || (i+k)%some == 0 {
					next = append(next, strings.ReplaceAll(around, "#", text))
				}
			}
		}
		texts = next
	}
	return slices.DeleteFunc(texts, func(text string) bool { return !isExpr(text) })
}

// randomNormal is a normal expression of at most some depth, or what would be one but for ExprMax; its few names are bound again and again.
func randomNormal(r *rand.Rand, depth int) string {
	if depth > 0 && r.Intn(3) > 0 {
		return "(let " + randomName(r) + " " + randomSimple(r, depth-1) + " " + randomNormal(r, depth-1) + ")"
	}
	return randomSimple(r, depth)
}

func randomSimple(r *rand.Rand, depth int) string {
	bare := func() string {
		return []string{"a", "b", "i", "x0", "x1", "y0", "0", "-1", "999"}[r.Intn(9)]
	}
	if depth == 0 {
		return bare()
	}
	switch r.Intn(6) {
	case 0:
		return "(" + []string{"fst", "snd"}[r.Intn(2)] + " " + bare() + ")"
	case 1:
		return "(if " + bare() + " " + randomNormal(r, depth-1) + " " + randomNormal(r, depth-1) + ")"
	case 2:
		names := [][2]string{{"a", "b"}, {"b", "a"}, {"x0", "a"}, {"f", "x"}, {"y0", "i"}}[r.Intn(5)]
		return "(fun " + names[0] + " " + names[1] + " " + randomType(r, 1) + " " + randomType(r, 1) + " " + randomNormal(r, depth-1) + ")"
	case 3:
		return bare()
	}
	return "(" + []string{"+", "-", "*", "call", "pair"}[r.Intn(5)] + " " + bare() + " " + bare() + ")"
}

// sampleNormals are normal expressions, the same in each run.
func sampleNormals() []string {
	return slices.Clone(onceNormals())
}

var onceNormals = sync.OnceValue(func() []string {
	texts := []string{
		"a", "-999", "500", "(+ a 1)", "(fst a)", "(pair 1 2)", "(let a 1 a)", "(let a a a)", "(let a 1 (let a a (let a a a)))", "(let y0 (+ 1 2) (let y1 (* y0 y0) (- y1 y0)))",
		"(if a 1 2)", "(if 0 (let a 1 a) (let b 2 (let c b (+ b c))))", "(fun f x i i x)", "(fun f x i i (let a x (let b (+ a 1) (call f b))))",
		"(let f (fun f x i i (let a x a)) (let a (if 1 (let b 2 b) 3) (call f a)))", inLets(39), "(let a a (let b b " + inLets(37) + "))", inFuns(23), wideFuns("x"), wideFuns("(let a x (let b a (+ a b)))"),
	}
	r := rand.New(rand.NewSource(16))
	for range 1500 {
		text := randomNormal(r, 1+r.Intn(5))
		texts = append(texts, text, withOthers(r, text))
	}
	return slices.DeleteFunc(texts, func(text string) bool { return !isExpr(text) })
})

// sampleNormalings are expressions that are to be made normal, the same in each run.
func sampleNormalings() []string {
	return slices.Clone(onceNormalings())
}

var onceNormalings = sync.OnceValue(func() []string {
	texts := append(fixedExprs(), tooWideExprs()...)
	texts = append(append(texts, filled(1, 1)...), filled(2, 5)...)
	for k, text := range sampleTypings() {
		if k%5 == 0 {
			texts = append(texts, text)
		}
	}
	r := rand.New(rand.NewSource(17))
	for range 1000 {
		text := randomExpr(r, 1+r.Intn(6))
		texts = append(texts, text, replaced(replaced(text, "a", "y0"), "x12", "y2"), replaced(replaced(text, "b", "y1"), "x0", "y3"))
	}
	return slices.DeleteFunc(texts, func(text string) bool { return !isExpr(text) })
})

// noExprs are texts that are no expressions.
func noExprs() []string {
	return append(fixedExprFaults(), strings.Repeat("(+ 1 ", 1<<17), strings.Repeat("(let a 1 ", 1<<17), strings.Repeat("9", 1<<20), "\xff", "(let a 1 a) ", "(let a 1 a))", "(let a 1\na)")
}

func TestOracleKnowsNormalExprs(t *testing.T) {
	shapes := map[string]string{
		"a": "bare", "-7": "bare", "(+ a 1)": "simple", "(+ a (+ b 1))": "other", "(if a (let b 1 b) (+ 1 2))": "simple", "(if (fst a) 1 2)": "other",
		"(fun f x (> (* i i) i) i (let a x a))": "simple", "(fun f x i i (fst (snd x)))": "other", "(let a (fst b) a)": "normal", "(let a (let b 1 b) a)": "other",
		"(let a 1 (let b (fun f x i i x) (call b a)))": "normal", "(let a (if 1 (let b 2 b) (fst (fst 3))) a)": "other", "(pair (let a 1 a) 2)": "other", "(a)": "", "(> i i)": "",
	}
	for text, want := range shapes {
		if got := shapeOf(text); got != want {
			t.Errorf("the oracle takes %q for %q", text, got)
		}
	}
	made := map[string]string{
		"a":                                "a",
		"(+ (* 2 3) 4)":                    "(let y0 (* 2 3) (+ y0 4))",
		"(let a (pair 1 (+ 2 3)) (fst a))": "(let y0 (+ 2 3) (let x0 (pair 1 y0) (fst x0)))",
		"(if (+ y0 1) (fst (fst a)) (fun f x (> i i) i (- 1 (* 2 3))))": "(let y1 (+ y0 1) (if y1 (let y2 (fst a) (fst y2)) (fun x0 x1 (> i i) i (let y3 (* 2 3) (- 1 y3)))))",
		"(fst (fun f x i (* i i) (let a x (pair a (let b a b)))))":      "(let y0 (fun x0 x1 i (* i i) (let x2 x1 (let x3 x2 (pair x2 x3)))) (fst y0))",
		sumOf(26, "1"): "",
	}
	for text, want := range made {
		if got := normalOf(text); got != want {
			t.Errorf("the oracle makes %q of %q", got, text)
		}
	}
	for _, text := range sampleNormals() {
		if shape := shapeOf(text); shape == "other" {
			t.Errorf("the oracle does not take %q for normal", cut(text))
		}
	}
	if len(sampleNormals()) < 1000 || len(sampleNormalings()) < 4000 {
		t.Errorf("there are %d normal samples, and %d others", len(sampleNormals()), len(sampleNormalings()))
	}
}
