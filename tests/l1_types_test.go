package tests

import (
	"math/rand"
	"slices"
	"strings"
	"testing"

	"loop.example/typedassembly/impl"
)

// smallTypes are all types of at most 9 atoms, each with its order, made as the document tells them.
func smallTypes() map[string]int {
	types := map[string]int{"i": 0}
	for range 4 {
		next := map[string]int{"i": 0}
		for a, first := range types {
			for b, second := range types {
				if len(atomsOf(a))+len(atomsOf(b))+1 > 9 {
					continue
				}
				next["(> "+a+" "+b+")"] = max(first+1, second)
				next["(* "+a+" "+b+")"] = max(first, second)
			}
		}
		types = next
	}
	return types
}

// wideType is a type of as many atoms, an odd number, with one head alone.
func wideType(head string, atoms int) string {
	text := "i"
	for size := 1; size < atoms; size += 2 {
		text = "(" + head + " i " + text + ")"
	}
	return text
}

func noTypes() []string {
	return []string{
		"", "a", "ii", "I", ">", "*", "(i)", "(>)", "(*)", "(> i)", "(* i)", "(> i i i)", "(* i i i)", "(i i i)", "(i > i)", "(i i >)",
		"(+ i i)", "(- i i)", "(>> i i)", "(> i a)", "(* a i)", "(> i (> i))", "(> (* i) i)", "(> i (* i i i))", "(> > i)", "(> i >)",
		"((> i i))", "((>) i i)", "((> i) i)", "((* i i) i)", "(> i i", "> i i", "> i i)", "(> i  i)", "(>  i i)", "( > i i)", "(> i i )", "(> i i) ", " i", "i ", "(>i i)", "(> i\ti)",
		"(> (i) i)", "(* i (i))", "(> () i)", "(> i ())",
	}
}

func TestTypesAndOrders(t *testing.T) {
	cases := map[string]int{
		"i":                               0,
		"(* i i)":                         0,
		"(* (* i i) (* i i))":             0,
		"(> i i)":                         1,
		"(> i (> i i))":                   1,
		"(> (> i i) i)":                   2,
		"(> (> i i) (> i i))":             2,
		"(> i (> (> i i) i))":             2,
		"(> (> (> i i) i) i)":             3,
		"(> i (> (> (> i i) i) i))":       3,
		"(* (> i i) i)":                   1,
		"(* i (> (> i i) i))":             2,
		"(> (* (> i i) i) i)":             2,
		"(> (* i i) (* i (> i i)))":       1,
		"(* (> i i) (> (> i i) i))":       2,
		"(> (> i i) (* i (> i i)))":       2,
		"(> (> (* i i) (> i i)) i)":       2,
		"(> (> i (> (> i i) i)) i)":       3,
		"(* (> (> (> i i) i) i) i)":       3,
		"(> (> (* i (> i i)) i) i)":       3,
		"(> (* i (* i i)) (* i i))":       1,
		"(> (> i i) (> (> i i) i))":       2,
		"(> (> (> i i) (> i i)) i)":       3,
		"(> i (* (> i i) (> i i)))":       1,
		"(* (* (> i i) i) (> i i))":       1,
		"(> i (> i (> i (> i i))))":       1,
		"(* (> i (> i i)) (> i i))":       1,
		"(> (> i (> i i)) (> i i))":       2,
		"(> (* i i) (> (* i i) i))":       1,
		"(> (> (> (> i i) i) i) i)":       4,
		wideType("*", 15):                 0,
		wideType(">", 15):                 1,
		"(> " + wideType(">", 13) + " i)": 2,
	}
	for text, order := range cases {
		if !impl.TypeValid(text) || impl.TypeOrder(text) != order {
			t.Errorf("%q is a type: %v, of order %d", text, impl.TypeValid(text), impl.TypeOrder(text))
		}
	}
}

func TestTypesAgreeWithTheOracle(t *testing.T) {
	types := smallTypes()
	if len(types) != 1+2+8+40+224 {
		t.Fatalf("there are %d small types", len(types))
	}
	for text, order := range types {
		if !impl.TypeValid(text) || impl.TypeOrder(text) != order {
			t.Errorf("%q is a type: %v, of order %d", text, impl.TypeValid(text), impl.TypeOrder(text))
		}
	}
	r := rand.New(rand.NewSource(2))
	texts := sampleTexts()
	for text := range types {
		texts = append(texts, spoiled(r, text), spoiled(r, text), text+text)
	}
	for _, text := range texts {
		if isForm(text) && len(atomsOf(text)) > 9 {
			continue
		}
		order, ok := types[text]
		if !ok {
			order = -1
		}
		if impl.TypeValid(text) != ok || impl.TypeOrder(text) != order {
			t.Errorf("%q is a type: %v, of order %d", cut(text), impl.TypeValid(text), impl.TypeOrder(text))
		}
	}
}

func TestTypesOfOtherTexts(t *testing.T) {
	for _, text := range noTypes() {
		if impl.TypeValid(text) || impl.TypeOrder(text) != -1 {
			t.Errorf("%q is a type of order %d", text, impl.TypeOrder(text))
		}
		checkNoSides(t, text)
		for _, fun := range []bool{true, false} {
			for _, sides := range [][2]string{{text, "i"}, {"i", text}, {text, text}} {
				if made, ok := impl.TypeMake(fun, sides[0], sides[1]); ok || made != "" {
					t.Errorf("TypeMake(%v, %q, %q) is %q", fun, sides[0], sides[1], made)
				}
			}
		}
	}
}

func checkNoSides(t *testing.T, text string) {
	t.Helper()
	if a, b, ok := impl.TypeFun(text); ok || a != "" || b != "" {
		t.Errorf("TypeFun(%q) is %q, %q, %v", cut(text), a, b, ok)
	}
	if a, b, ok := impl.TypePair(text); ok || a != "" || b != "" {
		t.Errorf("TypePair(%q) is %q, %q, %v", cut(text), a, b, ok)
	}
}

func TestTypesAtTheLimit(t *testing.T) {
	for _, head := range []string{">", "*"} {
		most := wideType(head, impl.TypeMax-1)
		over := wideType(head, impl.TypeMax+1)
		if !impl.TypeValid(most) {
			t.Errorf("%q is no type", most)
		}
		if impl.TypeValid(over) || impl.TypeOrder(over) != -1 || !impl.FormValid(over) {
			t.Errorf("%q is a type", over)
		}
		checkNoSides(t, over)
		if sixteen := strings.Replace(most, "i", "(i i)", 1); impl.TypeValid(sixteen) {
			t.Errorf("%q is a type", sixteen)
		}
	}
}

func TestTypeMakeAtTheLimit(t *testing.T) {
	for _, fun := range []bool{true, false} {
		a, b := wideType("*", 7), wideType(">", 7)
		if made, ok := impl.TypeMake(fun, a, b); !ok || impl.FormSize(made) != 15 || !impl.TypeValid(made) {
			t.Errorf("TypeMake(%v, %q, %q) is %q", fun, a, b, made)
		}
		for _, sides := range [][2]string{{wideType("*", 9), b}, {a, wideType(">", 9)}, {"i", wideType("*", 15)}, {wideType(">", 15), "i"}} {
			if made, ok := impl.TypeMake(fun, sides[0], sides[1]); ok || made != "" {
				t.Errorf("TypeMake(%v, %q, %q) is %q", fun, sides[0], sides[1], made)
			}
		}
	}
}

// P8 to P11.
func TestTypesHaveSides(t *testing.T) {
	for _, text := range append(sampleTexts(), wideType(">", 15), wideType("*", 15)) {
		if !impl.TypeValid(text) {
			checkNoSides(t, text)
			continue
		}
		a, b, fun := impl.TypeFun(text)
		c, d, pair := impl.TypePair(text)
		order := impl.TypeOrder(text)
		if (text == "i") == (fun || pair) || fun && pair || impl.FormSize(text) > impl.TypeMax || order < 0 {
			t.Errorf("%q of order %d is a function: %v, a pair: %v", text, order, fun, pair)
		}
		if !fun && a+b != "" || !pair && c+d != "" {
			t.Errorf("%q has sides %q, %q, %q, %q", text, a, b, c, d)
		}
		if made, ok := impl.TypeMake(true, a, b); fun && (!ok || made != text || order <= impl.TypeOrder(a)) {
			t.Errorf("TypeMake(true, %q, %q) is %q", a, b, made)
		}
		if made, ok := impl.TypeMake(false, c, d); pair && (!ok || made != text || order != max(impl.TypeOrder(c), impl.TypeOrder(d))) {
			t.Errorf("TypeMake(false, %q, %q) is %q", c, d, made)
		}
		if has := slices.Contains(atomsOf(text), ">"); order >= impl.FormSize(text) || has == (order == 0) {
			t.Errorf("%q has order %d", text, order)
		}
	}
}

// P9, P10 and P12.
func TestMadeTypesHaveTheirSides(t *testing.T) {
	for a := range smallTypes() {
		for _, b := range []string{"i", "(> i i)", "(* i (> i i))", wideType("*", 7), wideType(">", 9)} {
			fits := len(atomsOf(a))+len(atomsOf(b))+1 <= impl.TypeMax
			fun, ok := impl.TypeMake(true, a, b)
			x, y, two := impl.TypeFun(fun)
			if ok != fits || two != fits || fits && (fun != "(> "+a+" "+b+")" || x != a || y != b) || !fits && fun != "" {
				t.Errorf("TypeMake(true, %q, %q) is %q", a, b, fun)
			}
			pair, ok := impl.TypeMake(false, a, b)
			x, y, two = impl.TypePair(pair)
			if ok != fits || two != fits || fits && (pair != "(* "+a+" "+b+")" || x != a || y != b) || !fits && pair != "" {
				t.Errorf("TypeMake(false, %q, %q) is %q", a, b, pair)
			}
			if !fits {
				continue
			}
			if impl.TypeOrder(fun) != max(impl.TypeOrder(a)+1, impl.TypeOrder(b)) || impl.TypeOrder(pair) != max(impl.TypeOrder(a), impl.TypeOrder(b)) {
				t.Errorf("%q has order %d, %q %d", fun, impl.TypeOrder(fun), pair, impl.TypeOrder(pair))
			}
		}
	}
}
