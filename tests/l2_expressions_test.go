package tests

import (
	"math/rand"
	"slices"
	"strconv"
	"strings"
	"testing"

	"loop.example/typedassembly/impl"
)

func TestLimitOfExpressions(t *testing.T) {
	if impl.ExprMax != 120 {
		t.Errorf("the limit is %d", impl.ExprMax)
	}
	for _, text := range []string{"(fst " + sumOf(60, "1") + ")", wideFuns(sumOf(11, "x"))} {
		if impl.FormSize(text) != impl.ExprMax || !impl.ExprValid(text) {
			t.Errorf("%q of %d atoms is an expression: %v", text, impl.FormSize(text), impl.ExprValid(text))
		}
		over := "(snd " + text + ")"
		if impl.FormSize(over) != impl.ExprMax+1 {
			t.Errorf("%q has %d atoms", over, impl.FormSize(over))
		}
		checkNoExpr(t, over)
	}
}

func TestExprValidOfFixedTexts(t *testing.T) {
	for _, text := range fixedExprs() {
		if !impl.ExprValid(text) {
			t.Errorf("ExprValid(%q) does not hold", cut(text))
		}
	}
	for _, text := range fixedExprFaults() {
		if impl.ExprValid(text) {
			t.Errorf("ExprValid(%q) holds", cut(text))
		}
	}
}

func TestExprValidAgreesWithTheOracle(t *testing.T) {
	for _, text := range append(sampleTexts(), sampleExprTexts()...) {
		if impl.ExprValid(text) != isExpr(text) {
			t.Errorf("ExprValid(%q) is %v", cut(text), impl.ExprValid(text))
		}
	}
}

// checkNoExpr checks that all functions fail for a text that is no expression.
func checkNoExpr(t *testing.T, text string) {
	t.Helper()
	if impl.ExprValid(text) || impl.ExprClosed(text) || impl.ExprHead(text) != "" || impl.ExprCount(text, "a") != -1 {
		t.Errorf("%q is an expression: %v, %v, %q, %d", cut(text), impl.ExprValid(text), impl.ExprClosed(text), impl.ExprHead(text), impl.ExprCount(text, "a"))
	}
	if names, ok := impl.ExprFree(text); ok || len(names) != 0 {
		t.Errorf("ExprFree(%q) is %q, %v", cut(text), names, ok)
	}
	if kids, ok := impl.ExprKids(text); ok || len(kids) != 0 {
		t.Errorf("ExprKids(%q) is %q, %v", cut(text), kids, ok)
	}
	if n, ok := impl.ExprNumber(text); ok || n != 0 {
		t.Errorf("ExprNumber(%q) is %d, %v", cut(text), n, ok)
	}
	if plain, ok := impl.ExprPlain(text); ok || plain != "" {
		t.Errorf("ExprPlain(%q) is %q, %v", cut(text), cut(plain), ok)
	}
	if impl.ExprAlike(text, text) || impl.ExprAlike(text, "a") || impl.ExprAlike("a", text) {
		t.Errorf("%q is alike", cut(text))
	}
	for _, args := range [][3]string{{text, "a", "1"}, {"a", "a", text}, {"b", "a", text}, {"1", "a", text}} {
		if got, ok := impl.ExprPut(args[0], args[1], args[2]); ok || got != "" {
			t.Errorf("ExprPut of %q is %q, %v", cut(text), cut(got), ok)
		}
	}
}

func TestTextsThatAreNoExpressions(t *testing.T) {
	for _, text := range sampleExprTexts() {
		if !isExpr(text) {
			checkNoExpr(t, text)
		}
	}
}

func TestNames(t *testing.T) {
	for _, name := range []string{"a", "z", "i", "f", "a0", "a00", "a000", "x1", "x12", "x123", "x999"} {
		if impl.ExprHead(name) != "name" || impl.ExprCount(name, name) != 1 {
			t.Errorf("%q has the head %q", name, impl.ExprHead(name))
		}
		if put, ok := impl.ExprPut("(+ "+name+" 2)", name, "1"); !ok || put != "(+ 1 2)" {
			t.Errorf("ExprPut of %q is %q, %v", name, put, ok)
		}
		for _, text := range []string{"(let " + name + " 1 2)", "(fun " + name + " y77 i i 1)", "(fun y77 " + name + " i i 1)"} {
			if !impl.ExprValid(text) {
				t.Errorf("%q is no expression", text)
			}
		}
	}
	for _, text := range append(noNames(), fixedFaults()...) {
		if impl.ExprHead(text) == "name" || impl.ExprCount("1", text) != -1 || impl.ExprCount(text, text) != -1 {
			t.Errorf("%q is a name, or counted", cut(text))
		}
		for _, e := range []string{"1", "(+ a 1)", text} {
			if put, ok := impl.ExprPut(e, text, "1"); ok || put != "" {
				t.Errorf("ExprPut(%q, %q, 1) is %q", cut(e), cut(text), put)
			}
		}
		for _, bind := range []string{"(let " + text + " 1 2)", "(fun " + text + " x i i 1)", "(fun f " + text + " i i 1)"} {
			if impl.ExprValid(bind) {
				t.Errorf("%q is an expression", cut(bind))
			}
		}
	}
}

func noNames() []string {
	return []string{
		"", "x1234", "a0000", "1a", "X", "A1", "aa", "a1a", "ab12", "let", "fun", "if", "fst", "name", "0", "1", "-1", "999", "+", "-", "*", ">", "-a", "a-", "a-1", "a+", "(a)", "(+ a 1)", "(fst a)", "a ", " a", "a b", "a1 ", "a\n", "é", "a\x00", "1000",
	}
}

func TestNumerals(t *testing.T) {
	for n := -1100; n <= 1100; n++ {
		text := strconv.Itoa(n)
		fits := -999 <= n && n <= 999
		got, ok := impl.ExprNumber(text)
		if ok != fits || ok && got != n || !ok && got != 0 {
			t.Errorf("ExprNumber(%q) is %d, %v", text, got, ok)
		}
		if head := impl.ExprHead(text); (head == "number") != fits || !fits && head != "" {
			t.Errorf("%q has the head %q", text, head)
		}
		if plain, ok := impl.ExprPlain("(pair " + text + " " + text + ")"); ok != fits || ok && plain != "(pair "+text+" "+text+")" {
			t.Errorf("a pair of %q is made %q, %v", text, plain, ok)
		}
	}
	others := []string{
		"", "-0", "00", "000", "-00", "01", "-01", "001", "+0", "+1", "-", "+", "--1", "-+1", "+-1", "1-", "1-1", "a", "1a", "a1", "x12", "1000", "-1000", "0999", "1 ", " 1", "1\n", "1.0", "1e1", "0x1", "1_0", "(1)", "(+ 1 2)",
		"18446744073709551616", "99999999999999999999999", "١", strings.Repeat("1", impl.FormMax), strings.Repeat("9", 10*impl.FormMax),
	}
	for _, text := range others {
		if n, ok := impl.ExprNumber(text); ok || n != 0 {
			t.Errorf("ExprNumber(%q) is %d, %v", cut(text), n, ok)
		}
	}
}

func TestNamesAndNumeralsOfShortTexts(t *testing.T) {
	for _, text := range shortTexts("x10-(", 5) {
		n, ok := impl.ExprNumber(text)
		if ok != numeralOnly.MatchString(text) || ok && strconv.Itoa(n) != text {
			t.Errorf("ExprNumber(%q) is %d, %v", text, n, ok)
		}
		want := ""
		switch {
		case ok:
			want = "number"
		case nameOnly.MatchString(text):
			want = "name"
		}
		if head := impl.ExprHead(text); head != want {
			t.Errorf("ExprHead(%q) is %q", text, head)
		}
	}
}

// P20.
func TestNumberIsThatOfTheNumeral(t *testing.T) {
	for _, text := range append(sampleExprTexts(), shortTexts("-109", 4)...) {
		n, ok := impl.ExprNumber(text)
		if !ok {
			continue
		}
		if n < -999 || n > 999 || strconv.Itoa(n) != text || !impl.ExprValid(text) {
			t.Errorf("ExprNumber(%q) is %d", text, n)
		}
		for digit := range 10 {
			if other, ok := impl.ExprNumber(text + strconv.Itoa(digit)); ok && other == n {
				t.Errorf("%q has the same number with the digit %d behind", text, digit)
			}
		}
	}
}

func TestHeadsAndKids(t *testing.T) {
	cases := []struct {
		text string
		head string
		kids []string
	}{
		{"a", "name", nil},
		{"i", "name", nil},
		{"x12", "name", nil},
		{"0", "number", nil},
		{"-999", "number", nil},
		{"(+ a 1)", "+", []string{"a", "1"}},
		{"(- 1 (- a b))", "-", []string{"1", "(- a b)"}},
		{"(* i i)", "*", []string{"i", "i"}},
		{"(if a (if 1 2 3) c)", "if", []string{"a", "(if 1 2 3)", "c"}},
		{"(let x y z)", "let", []string{"y", "z"}},
		{"(let x (let y 1 2) (fst x))", "let", []string{"(let y 1 2)", "(fst x)"}},
		{"(fun f x i i y)", "fun", []string{"y"}},
		{"(fun f x (> i i) (* i i) (+ f x))", "fun", []string{"(+ f x)"}},
		{"(call f (pair a b))", "call", []string{"f", "(pair a b)"}},
		{"(pair (call f x) -1)", "pair", []string{"(call f x)", "-1"}},
		{"(fst (snd a))", "fst", []string{"(snd a)"}},
		{"(snd (fst a))", "snd", []string{"(fst a)"}},
		{"(pair a a)", "pair", []string{"a", "a"}},
	}
	for _, c := range cases {
		if head := impl.ExprHead(c.text); head != c.head {
			t.Errorf("ExprHead(%q) is %q", c.text, head)
		}
		if kids, ok := impl.ExprKids(c.text); !ok || !slices.Equal(kids, c.kids) {
			t.Errorf("ExprKids(%q) is %q, %v", c.text, kids, ok)
		}
	}
}

// P18, P19 and P21, and what head and kids are.
func TestHeadsAndKidsOfSamples(t *testing.T) {
	counts := map[string]int{"name": 0, "number": 0, "+": 2, "-": 2, "*": 2, "if": 3, "let": 2, "fun": 1, "call": 2, "pair": 2, "fst": 1, "snd": 1}
	for _, text := range sampleExprs() {
		head := impl.ExprHead(text)
		kids, ok := impl.ExprKids(text)
		count, known := counts[head]
		if !ok || !known || len(kids) != count {
			t.Fatalf("%q has the head %q and the kids %q", cut(text), head, kids)
		}
		if _, number := impl.ExprNumber(text); number != (head == "number") {
			t.Errorf("%q is a numeral: %v, with the head %q", text, number, head)
		}
		free, _ := impl.ExprFree(text)
		if head == "name" && !slices.Equal(free, []string{text}) {
			t.Errorf("the name %q has the free names %q", text, free)
		}
		if count > 0 && !strings.HasPrefix(text, "("+head+" ") || count > 0 && !strings.HasSuffix(text, " "+strings.Join(kids, " ")+")") {
			t.Errorf("%q has the head %q and the kids %q", cut(text), head, kids)
		}
		var below []string
		for _, kid := range kids {
			if !impl.ExprValid(kid) || impl.FormSize(kid) >= impl.FormSize(text) {
				t.Errorf("%q has the kid %q", cut(text), cut(kid))
			}
			names, _ := impl.ExprFree(kid)
			below = append(below, names...)
		}
		for _, name := range free {
			if head != "name" && !slices.Contains(below, name) {
				t.Errorf("%q is free in %q and in none of its kids", name, cut(text))
			}
		}
	}
}

func TestExprArgumentsAndResultsAreApart(t *testing.T) {
	for _, list := range []func(string) ([]string, bool){impl.ExprFree, impl.ExprKids} {
		want, _ := list("(if a (+ b a) c)")
		want = slices.Clone(want)
		first, _ := list("(if a (+ b a) c)")
		second, _ := list("(if a (+ b a) c)")
		for i := range first {
			first[i] = "z"
		}
		_ = append(first[:0], "y", "y", "y")
		if third, _ := list("(if a (+ b a) c)"); len(want) != 3 || !slices.Equal(second, want) || !slices.Equal(third, want) {
			t.Errorf("a result that was changed changes others: %q, %q", second, third)
		}
	}
}

func TestExprResultsAreNewTexts(t *testing.T) {
	text := strings.Clone("(pair (let x0 a12 (+ x0 b34)) (fst 123))")
	name, by := strings.Clone("c56"), strings.Clone("(+ 1 2)")
	results, _ := impl.ExprKids(text)
	free, _ := impl.ExprFree(text)
	plain, _ := impl.ExprPlain(text)
	unchanged, _ := impl.ExprPut(text, name, by)
	whole, _ := impl.ExprPut(name, name, by)
	self, _ := impl.ExprFree(name)
	results = append(append(append(results, free...), self...), plain, unchanged, whole)
	if len(results) != 8 || plain != text || unchanged != text || whole != by {
		t.Fatalf("the results are %q", results)
	}
	for i, result := range results {
		for _, other := range append([]string{text, name, by}, results[:i]...) {
			if overlaps(other, result) {
				t.Errorf("%q shares memory with %q", result, other)
			}
		}
	}
}

func TestExprFunctionsTakeAnyText(t *testing.T) {
	r := rand.New(rand.NewSource(4))
	for range 3000 {
		text := make([]byte, r.Intn(40))
		for i := range text {
			text[i] = "()() letfunxi01-+*>\n\xff"[r.Intn(21)]
		}
		if !isExpr(string(text)) {
			checkNoExpr(t, string(text))
		}
	}
	for _, text := range []string{strings.Repeat("(let x ", 1<<20), strings.Repeat("(+ 1 ", 1<<20) + "1" + strings.Repeat(")", 1<<20)} {
		checkNoExpr(t, text)
	}
}
