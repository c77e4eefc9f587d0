package tests

import (
	"math/rand"
	"slices"
	"strconv"
	"strings"
	"testing"

	"loop.example/typedassembly/impl"
)

// checkNormalOf checks the normal expression that is made of an expression, or that there is none if it is "".
func checkNormalOf(t *testing.T, text string, want string) {
	t.Helper()
	if made, ok := impl.NormalOf(text); ok != (want != "") || made != want {
		t.Errorf("NormalOf(%q) is %q, %v, not %q", cut(text), cut(made), ok, cut(want))
	}
}

func TestNormalOfSomeExprs(t *testing.T) {
	cases := map[string]string{
		"(+ 1 2)": "(+ 1 2)", "(fst a)": "(fst a)", "(call f x)": "(call f x)", "(if a 1 2)": "(if a 1 2)", "(fun f x i i x)": "(fun x0 x1 i i x1)", "(let a 1 a)": "(let x0 1 x0)",
		"(+ (* 2 3) 4)":                       "(let y0 (* 2 3) (+ y0 4))",
		"(+ 4 (* 2 3))":                       "(let y0 (* 2 3) (+ 4 y0))",
		"(- (+ 1 2) (* 3 4))":                 "(let y0 (+ 1 2) (let y1 (* 3 4) (- y0 y1)))",
		"(+ (+ 1 (+ 2 3)) 4)":                 "(let y0 (+ 2 3) (let y1 (+ 1 y0) (+ y1 4)))",
		"(+ (+ (+ 1 2) (+ 3 4)) (+ 5 6))":     "(let y0 (+ 1 2) (let y1 (+ 3 4) (let y2 (+ y0 y1) (let y3 (+ 5 6) (+ y2 y3)))))",
		"(pair (pair 1 2) (fst (pair 3 -4)))": "(let y0 (pair 1 2) (let y1 (pair 3 -4) (let y2 (fst y1) (pair y0 y2))))",
		"(snd (fst (snd a)))":                 "(let y0 (snd a) (let y1 (fst y0) (snd y1)))",
		"(call (call f 1) (call g 2))":        "(let y0 (call f 1) (let y1 (call g 2) (call y0 y1)))",
		"(if (+ 1 2) 3 4)":                    "(let y0 (+ 1 2) (if y0 3 4))",
		"(if a (+ 1 (* 2 3)) (* (+ 4 5) 6))":  "(if a (let y0 (* 2 3) (+ 1 y0)) (let y1 (+ 4 5) (* y1 6)))",
		"(+ (if a (+ 1 (* 2 3)) 4) (* 5 6))":  "(let y1 (if a (let y0 (* 2 3) (+ 1 y0)) 4) (let y2 (* 5 6) (+ y1 y2)))",
		"(if (if (+ 1 2) 3 (+ 4 5)) 6 7)":     "(let y0 (+ 1 2) (let y1 (if y0 3 (+ 4 5)) (if y1 6 7)))",
		"(if 0 (if (+ 1 2) (fst (snd a)) 3) (if 1 2 (+ (* 1 2) (* 3 4))))":          "(if 0 (let y0 (+ 1 2) (if y0 (let y1 (snd a) (fst y1)) 3)) (if 1 2 (let y2 (* 1 2) (let y3 (* 3 4) (+ y2 y3)))))",
		"(fun f x i i (call f (- x 1)))":                                            "(fun x0 x1 i i (let y0 (- x1 1) (call x0 y0)))",
		"(fun f x i (> i i) (fun g y i i (+ (* x 2) (* y 3))))":                     "(fun x0 x1 i (> i i) (fun x2 x3 i i (let y0 (* x1 2) (let y1 (* x3 3) (+ y0 y1)))))",
		"(pair (fun f x i i (+ x (* x x))) (+ 1 (* 2 3)))":                          "(let y1 (fun x0 x1 i i (let y0 (* x1 x1) (+ x1 y0))) (let y2 (* 2 3) (let y3 (+ 1 y2) (pair y1 y3))))",
		"(call (fun f x (* i i) i (fst x)) (pair 1 2))":                             "(let y0 (fun x0 x1 (* i i) i (fst x1)) (let y1 (pair 1 2) (call y0 y1)))",
		"(call (fun f x i i (if x 1 (* x (call f (- x 1))))) 5)":                    "(let y2 (fun x0 x1 i i (if x1 1 (let y0 (- x1 1) (let y1 (call x0 y0) (* x1 y1))))) (call y2 5))",
		"(let a (pair 1 (+ 2 3)) (fst a))":                                          "(let y0 (+ 2 3) (let x0 (pair 1 y0) (fst x0)))",
		"(let a (+ 1 (* 2 3)) 7)":                                                   "(let y0 (* 2 3) (let x0 (+ 1 y0) 7))",
		"(let a 1 (+ a (+ a a)))":                                                   "(let x0 1 (let y0 (+ x0 x0) (+ x0 y0)))",
		"(let a (fun f x i i (+ (+ x 1) 2)) (if (call a 3) (fst (fst b)) (+ 1 2)))": "(let x0 (fun x1 x2 i i (let y0 (+ x2 1) (+ y0 2))) (let y1 (call x0 3) (if y1 (let y2 (fst b) (fst y2)) (+ 1 2))))",
	}
	for text, want := range cases {
		checkNormalOf(t, text, want)
	}
}

func TestNormalOfBindingsInsideOfBindings(t *testing.T) {
	cases := map[string]string{
		// Within what a let binds, several levels deep.
		"(let a (let b 1 b) a)":                                 "(let x1 1 (let x0 x1 x0))",
		"(let a (let b (let c 1 c) b) a)":                       "(let x2 1 (let x1 x2 (let x0 x1 x0)))",
		"(let a (let b (let c (let d 1 (+ d d)) c) b) a)":       "(let x3 1 (let x2 (+ x3 x3) (let x1 x2 (let x0 x1 x0))))",
		"(let a (let b (+ 1 2) (* b b)) (- a 1))":               "(let x1 (+ 1 2) (let x0 (* x1 x1) (- x0 1)))",
		"(let a (let b 1 (let c b (+ b c))) a)":                 "(let x1 1 (let x2 x1 (let x0 (+ x1 x2) x0)))",
		"(let a (let b (let c 1 c) (let d b (+ d b))) (+ a 2))": "(let x2 1 (let x1 x2 (let x3 x1 (let x0 (+ x3 x1) (+ x0 2)))))",
		// Within the part that follows, several levels deep.
		"(let a 1 (let b a (+ a b)))":                 "(let x0 1 (let x1 x0 (+ x0 x1)))",
		"(let a 1 (let b 2 (let c 3 (+ a (+ b c)))))": "(let x0 1 (let x1 2 (let x2 3 (let y0 (+ x1 x2) (+ x0 y0)))))",
		"(let a 1 (let b (+ a (* a 2)) (let c b c)))": "(let x0 1 (let y0 (* x0 2) (let x1 (+ x0 y0) (let x2 x1 x2))))",
		"(let a 1 (let a (+ a 1) (let a (+ a 2) a)))": "(let x0 1 (let x1 (+ x0 1) (let x2 (+ x1 2) x2)))",
		// Within both at once.
		"(let a (let b 1 b) (let c 2 (+ a c)))":                                                     "(let x1 1 (let x0 x1 (let x2 2 (+ x0 x2))))",
		"(let a (let b 1 b) (let c (let d 2 d) (+ a c)))":                                           "(let x1 1 (let x0 x1 (let x3 2 (let x2 x3 (+ x0 x2)))))",
		"(let a (let a a a) (let a a a))":                                                           "(let x1 a (let x0 x1 (let x2 x0 x2)))",
		"(let a (let b (+ 1 (* 2 3)) b) (let c (+ a a) (* c (let d 1 d))))":                         "(let y0 (* 2 3) (let x1 (+ 1 y0) (let x0 x1 (let x2 (+ x0 x0) (let x3 1 (* x2 x3))))))",
		"(let a (let b (let c (+ 1 (* 2 3)) (- c 1)) (* b b)) (+ a (fst (pair a a))))":              "(let y0 (* 2 3) (let x2 (+ 1 y0) (let x1 (- x2 1) (let x0 (* x1 x1) (let y1 (pair x0 x0) (let y2 (fst y1) (+ x0 y2)))))))",
		"(let a (let b (let c 1 (+ c 2)) (let d b (* d 3))) (let e (let f a (- f 4)) (let g e g)))": "(let x2 1 (let x1 (+ x2 2) (let x3 x1 (let x0 (* x3 3) (let x5 x0 (let x4 (- x5 4) (let x6 x4 x6)))))))",
		// Within the parts of other expressions.
		"(+ (let a 1 a) 2)":                                      "(let x0 1 (+ x0 2))",
		"(+ 2 (let a 1 a))":                                      "(let x0 1 (+ 2 x0))",
		"(+ (let a 1 a) (let a 2 a))":                            "(let x0 1 (let x1 2 (+ x0 x1)))",
		"(+ (let a 1 (+ a a)) a)":                                "(let x0 1 (let y0 (+ x0 x0) (+ y0 a)))",
		"(- a (let a a (- a 1)))":                                "(let x0 a (let y0 (- x0 1) (- a y0)))",
		"(* (+ 1 2) (let a (+ 3 4) (+ 5 a)))":                    "(let y0 (+ 1 2) (let x0 (+ 3 4) (let y1 (+ 5 x0) (* y0 y1))))",
		"(+ (+ 1 (let a (let b 2 b) (+ a 3))) (let c 4 c))":      "(let x1 2 (let x0 x1 (let y0 (+ x0 3) (let y1 (+ 1 y0) (let x2 4 (+ y1 x2))))))",
		"(pair (let a (let b 1 b) a) (let c 2 c))":               "(let x1 1 (let x0 x1 (let x2 2 (pair x0 x2))))",
		"(pair (pair 1 (let a 2 a)) (let b (pair 3 4) (fst b)))": "(let x0 2 (let y0 (pair 1 x0) (let x1 (pair 3 4) (let y1 (fst x1) (pair y0 y1)))))",
		"(fst (let a (pair 1 2) a))":                             "(let x0 (pair 1 2) (fst x0))",
		"(snd (let a 1 (let b 2 (pair a b))))":                   "(let x0 1 (let x1 2 (let y0 (pair x0 x1) (snd y0))))",
		"(fst (fst (let a (pair 1 2) (pair a a))))":              "(let x0 (pair 1 2) (let y0 (pair x0 x0) (let y1 (fst y0) (fst y1))))",
		"(fst (let a (let b (fst (let c d c)) b) (snd a)))":      "(let x2 d (let x1 (fst x2) (let x0 x1 (let y0 (snd x0) (fst y0)))))",
		// Within what is called, and with what.
		"(call (let a f a) 1)":                                             "(let x0 f (call x0 1))",
		"(call f (let a 1 a))":                                             "(let x0 1 (call f x0))",
		"(call (let a f a) (let b 1 (fst b)))":                             "(let x0 f (let x1 1 (let y0 (fst x1) (call x0 y0))))",
		"(call (call (let a f a) 1) (let b 2 b))":                          "(let x0 f (let y0 (call x0 1) (let x1 2 (call y0 x1))))",
		"(call (fun f x i i (let a x a)) (let b 1 b))":                     "(let y0 (fun x0 x1 i i (let x2 x1 x2)) (let x3 1 (call y0 x3)))",
		"(call (let g (fun f x i i (+ x (* x 2))) g) (+ 1 2))":             "(let x0 (fun x1 x2 i i (let y0 (* x2 2) (+ x2 y0))) (let y1 (+ 1 2) (call x0 y1)))",
		"(call (let a (let b (fun f x i i x) b) (let c a c)) (let d 1 d))": "(let x1 (fun x2 x3 i i x3) (let x0 x1 (let x4 x0 (let x5 1 (call x4 x5)))))",
		// Within the first part of an if they go ahead of it, and within both others they stay.
		"(if (let a 0 a) 1 2)":                                                          "(let x0 0 (if x0 1 2))",
		"(if 0 (let a 1 a) 2)":                                                          "(if 0 (let x0 1 x0) 2)",
		"(if 0 1 (let a 2 a))":                                                          "(if 0 1 (let x0 2 x0))",
		"(if (let a (let b 0 b) (let c a c)) 1 2)":                                      "(let x1 0 (let x0 x1 (let x2 x0 (if x2 1 2))))",
		"(if 0 (let a (let b 1 b) a) (let c (if 1 (let d 2 d) 3) c))":                   "(if 0 (let x1 1 (let x0 x1 x0)) (let x2 (if 1 (let x3 2 x3) 3) x2))",
		"(if (let a 0 (+ a 1)) (let b 1 b) (let c (+ 1 2) (* c (+ 3 4))))":              "(let x0 0 (let y0 (+ x0 1) (if y0 (let x1 1 x1) (let x2 (+ 1 2) (let y1 (+ 3 4) (* x2 y1))))))",
		"(if (if (let a 1 a) (let b 2 b) (let c 3 c)) (let d 4 d) 5)":                   "(let x0 1 (let y0 (if x0 (let x1 2 x1) (let x2 3 x2)) (if y0 (let x3 4 x3) 5)))",
		"(let a (if (let b 0 b) (let c 1 c) 2) a)":                                      "(let x1 0 (let x0 (if x1 (let x2 1 x2) 2) x0))",
		"(+ (if 0 (let a 1 a) 2) (let b 3 b))":                                          "(let y0 (if 0 (let x0 1 x0) 2) (let x1 3 (+ y0 x1)))",
		"(+ (let b 3 b) (if (let a 1 a) (let a 2 a) 4))":                                "(let x0 3 (let x1 1 (let y0 (if x1 (let x2 2 x2) 4) (+ x0 y0))))",
		"(if 1 (if 2 (if 3 (let a (let b 4 b) a) 5) 6) (if (let c 7 c) (let d 8 d) 9))": "(if 1 (if 2 (if 3 (let x1 4 (let x0 x1 x0)) 5) 6) (let x2 7 (if x2 (let x3 8 x3) 9)))",
		// Within the body of a fun they stay.
		"(fun f x i i (let a x a))": "(fun x0 x1 i i (let x2 x1 x2))",
		"(fun f x i i (let a (+ x 1) (let b (let c a c) (call f (* a b)))))":              "(fun x0 x1 i i (let x2 (+ x1 1) (let x4 x2 (let x3 x4 (let y0 (* x2 x3) (call x0 y0))))))",
		"(fun f x i i (fun g y i i (let a (let b x b) (+ (let c y c) a))))":               "(fun x0 x1 i i (fun x2 x3 i i (let x5 x1 (let x4 x5 (let x6 x3 (+ x6 x4))))))",
		"(let a (fun f x i i (let b x b)) (call a (let c 1 c)))":                          "(let x0 (fun x1 x2 i i (let x3 x2 x3)) (let x4 1 (call x0 x4)))",
		"(pair (let a 1 a) (fun f x i i (let b (let c x c) b)))":                          "(let x0 1 (let y0 (fun x1 x2 i i (let x4 x2 (let x3 x4 x3))) (pair x0 y0)))",
		"(fun f x i i (if (let a x a) (let b x (call f (let c b c))) (+ (let d 1 d) 2)))": "(fun x0 x1 i i (let x2 x1 (if x2 (let x3 x1 (let x4 x3 (call x0 x4))) (let x5 1 (+ x5 2)))))",
	}
	for text, want := range cases {
		checkNormalOf(t, text, want)
	}
}

func TestNewNamesOfNormalExprs(t *testing.T) {
	cases := map[string]string{
		// Free names are left out, wherever they stand.
		"(+ y0 (+ 1 2))":                    "(let y1 (+ 1 2) (+ y0 y1))",
		"(+ (+ 1 2) y0)":                    "(let y1 (+ 1 2) (+ y1 y0))",
		"(+ (+ y0 1) y1)":                   "(let y2 (+ y0 1) (+ y2 y1))",
		"(+ (+ y1 1) (+ 2 3))":              "(let y0 (+ y1 1) (let y2 (+ 2 3) (+ y0 y2)))",
		"(+ (+ 1 2) (+ (+ 3 y2) (+ 4 y0)))": "(let y1 (+ 1 2) (let y3 (+ 3 y2) (let y4 (+ 4 y0) (let y5 (+ y3 y4) (+ y1 y5)))))",
		"(+ (+ 1 2) (let a 3 y0))":          "(let y1 (+ 1 2) (let x0 3 (+ y1 y0)))",
		"(pair (+ 1 2) (fun f x i i y0))":   "(let y1 (+ 1 2) (let y2 (fun x0 x1 i i y0) (pair y1 y2)))",
		"(if (+ 1 2) y1 (+ y0 (+ y3 4)))":   "(let y2 (+ 1 2) (if y2 y1 (let y4 (+ y3 4) (+ y0 y4))))",
		"(let a y0 (+ a (+ 1 2)))":          "(let x0 y0 (let y1 (+ 1 2) (+ x0 y1)))",
		// Names that are no new ones.
		"(+ y (+ 1 2))":    "(let y0 (+ 1 2) (+ y y0))",
		"(+ y00 (+ 1 2))":  "(let y0 (+ 1 2) (+ y00 y0))",
		"(+ y000 (+ 1 2))": "(let y0 (+ 1 2) (+ y000 y0))",
		"(+ y10 (+ 1 2))":  "(let y0 (+ 1 2) (+ y10 y0))",
		"(+ z0 (+ 1 2))":   "(let y0 (+ 1 2) (+ z0 y0))",
		// Bound ones are renamed first, and so take none of the new names.
		"(let y0 1 y0)":                          "(let x0 1 x0)",
		"(let y0 (+ 1 2) (+ y0 (* y0 y0)))":      "(let x0 (+ 1 2) (let y0 (* x0 x0) (+ x0 y0)))",
		"(let y0 (+ 1 (+ 2 3)) (let y1 y0 y1))":  "(let y0 (+ 2 3) (let x0 (+ 1 y0) (let x1 x0 x1)))",
		"(fun y0 y1 i i (call y0 (+ y1 1)))":     "(fun x0 x1 i i (let y0 (+ x1 1) (call x0 y0)))",
		"(+ (let y0 1 y0) (+ y0 1))":             "(let x0 1 (let y1 (+ y0 1) (+ x0 y1)))",
		"(+ (let y1 1 y1) (+ y0 1))":             "(let x0 1 (let y1 (+ y0 1) (+ x0 y1)))",
		"(let y0 y0 (+ y0 (+ y0 y0)))":           "(let x0 y0 (let y1 (+ x0 x0) (+ x0 y1)))",
		"(let y1 (let y0 1 (fst (fst y0))) y1)":  "(let x1 1 (let y0 (fst x1) (let x0 (fst y0) x0)))",
		"(let x0 1 (let x1 x0 (+ x1 (+ x0 1))))": "(let x0 1 (let x1 x0 (let y0 (+ x0 1) (+ x1 y0))))",
		// A free x0 is left out by the names that are bound.
		"(+ (let a (+ x0 1) a) (* x0 2))":          "(let x1 (+ x0 1) (let y0 (* x0 2) (+ x1 y0)))",
		"(+ (let x0 x0 x0) (let x1 x0 (+ x1 y0)))": "(let x1 x0 (let x2 x0 (let y1 (+ x2 y0) (+ x1 y1))))",
		"(fun x0 x1 i i (+ x0 (+ x2 x1)))":         "(fun x0 x1 i i (let y0 (+ x2 x1) (+ x0 y0)))",
		// They follow each other across if and fun.
		"(if (+ 1 2) (+ 3 (* 4 5)) (- 6 (* 7 8)))":                                               "(let y0 (+ 1 2) (if y0 (let y1 (* 4 5) (+ 3 y1)) (let y2 (* 7 8) (- 6 y2))))",
		"(if (+ 1 2) (+ 3 (* 4 y1)) (fun f x i i (+ x (* x y3))))":                               "(let y0 (+ 1 2) (if y0 (let y2 (* 4 y1) (+ 3 y2)) (fun x0 x1 i i (let y4 (* x1 y3) (+ x1 y4)))))",
		"(pair (if (fst a) (fst (fst a)) 1) (fun f x i i (fst (fst x))))":                        "(let y0 (fst a) (let y2 (if y0 (let y1 (fst a) (fst y1)) 1) (let y4 (fun x0 x1 i i (let y3 (fst x1) (fst y3))) (pair y2 y4))))",
		"(+ (+ 1 2) (call (fun f x i i (+ x (+ 3 4))) (if 0 (+ 5 (+ 6 7)) (+ 8 (+ 9 0)))))":      "(let y0 (+ 1 2) (let y2 (fun x0 x1 i i (let y1 (+ 3 4) (+ x1 y1))) (let y5 (if 0 (let y3 (+ 6 7) (+ 5 y3)) (let y4 (+ 9 0) (+ 8 y4))) (let y6 (call y2 y5) (+ y0 y6)))))",
		"(let a (if 0 (fst (fst b)) 1) (let c (fun f x i i (snd (snd x))) (+ (fst a) (snd c))))": "(let x0 (if 0 (let y0 (fst b) (fst y0)) 1) (let x1 (fun x2 x3 i i (let y1 (snd x3) (snd y1))) (let y2 (fst x0) (let y3 (snd x1) (+ y2 y3)))))",
	}
	for text, want := range cases {
		checkNormalOf(t, text, want)
	}
}

func TestNormalOfManyNewNames(t *testing.T) {
	fsts := func(n int, at int, from string) string {
		text := "(fst y" + strconv.Itoa(at+n-1) + ")"
		for i := n - 1; i >= 0; i-- {
			below := "y" + strconv.Itoa(at+i-1)
			if i == 0 {
				below = from
			}
			text = "(let y" + strconv.Itoa(at+i) + " (fst " + below + ") " + text + ")"
		}
		return text
	}
	checkNormalOf(t, inFsts(11, "a"), fsts(10, 0, "a"))
	checkNormalOf(t, inFsts(30, "a"), fsts(29, 0, "a"))
	checkNormalOf(t, inFsts(31, "a"), "")
	checkNormalOf(t, inFsts(12, "y0"), fsts(11, 1, "y0"))
	checkNormalOf(t, "(fun f x i i "+inFsts(28, "x")+")", "(fun x0 x1 i i "+fsts(27, 0, "x1")+")")
	// As many free names in the way as there are new ones, and one more.
	for n := 2; n <= 25; n++ {
		sum := "y0"
		for i := 1; i < n; i++ {
			sum = "(+ " + sum + " y" + strconv.Itoa(i) + ")"
		}
		want := "(+ y" + strconv.Itoa(2*n-3) + " y" + strconv.Itoa(n-1) + ")"
		for i := n - 2; i >= 1; i-- {
			below := "y" + strconv.Itoa(n+i-2)
			if i == 1 {
				below = "y0"
			}
			want = "(let y" + strconv.Itoa(n+i-1) + " (+ " + below + " y" + strconv.Itoa(i) + ") " + want + ")"
		}
		if n == 2 {
			want = sum
		}
		checkNormalOf(t, sum, want)
		checkNormalOf(t, sum, normalOf(sum))
	}
	// They would need more than 100 new names.
	for _, text := range []string{"(+ " + inFsts(58, "1") + " " + inFsts(59, "1") + ")", "(pair " + inFsts(52, "a") + " " + inFsts(50, "a") + ")", sumOf(60, "1"), inFsts(impl.DepthMax, "1")} {
		if !isExpr(text) {
			t.Fatalf("%q is no expression", cut(text))
		}
		checkNormalOf(t, text, "")
	}
}

// Each new name makes an expression larger by 3 atoms.
func TestNormalOfAtTheLimits(t *testing.T) {
	cases := []struct {
		text  string
		atoms int
	}{
		{inFsts(30, "a"), 118},
		{inFsts(31, "a"), 122},
		{sumOf(25, "1"), 118},
		{sumOf(26, "1"), 123},
		{"(fst (if 0 1 " + sumOf(23, "1") + "))", 115},
		{"(if 0 1 (fst " + sumOf(24, "1") + "))", 120},
		{"(let a 1 (fst " + sumOf(24, "a") + "))", 120},
		{"(fun f x i i (fst " + sumOf(23, "x") + "))", 117},
		{"(if 0 1 " + sumOf(25, "1") + ")", 121},
		{"(let a 1 " + sumOf(25, "a") + ")", 121},
		{"(let a " + sumOf(25, "1") + " a)", 121},
		{"(fst " + sumOf(25, "1") + ")", 122},
		{"(let a (fst " + sumOf(24, "1") + ") a)", 120},
		{inLets(39), 118},
		{strings.Replace(inLets(39), " a)", " (fst a))", 1), 119},
		{strings.Replace(inLets(39), " a)", " (+ a 1))", 1), 120},
		{strings.Replace(inLets(38), " a)", " (fst (snd a)))", 1), 120},
		{strings.Replace(inLets(38), " a)", " (fst (+ a a)))", 1), 121},
		{wideFuns(sumOf(11, "x")), 147},
		{wideFuns(sumOf(6, "x")), 122},
		{wideFuns(sumOf(5, "x")), 117},
		{wideFuns("(if x 1 " + sumOf(5, "x") + ")"), 120},
	}
	for _, c := range cases {
		if !isExpr(c.text) {
			t.Fatalf("%q is no expression", cut(c.text))
		}
		o := normalOracle{text: plainOf(c.text)}
		want := o.run()
		if len(atomsOf(want)) != c.atoms {
			t.Errorf("%q would become one of %d atoms, not %d", cut(c.text), len(atomsOf(want)), c.atoms)
		}
		if c.atoms > impl.ExprMax {
			want = ""
		}
		checkNormalOf(t, c.text, want)
	}
}

func TestNormalOfAgreesWithTheOracle(t *testing.T) {
	made, over := 0, 0
	for _, text := range append(sampleNormalings(), filled(3, 41)...) {
		want := normalOf(text)
		checkNormalOf(t, text, want)
		if want == "" {
			over++
			continue
		}
		made++
		if shape := shapeOf(want); shape == "" || shape == "other" {
			t.Errorf("NormalOf(%q) is %q", cut(text), cut(want))
		}
	}
	if made < 4000 || over < 50 {
		t.Errorf("of the samples %d are made normal, and %d would be too large", made, over)
	}
}

// Names are made plain first, so that expressions that are alike become the same normal one.
func TestNormalOfExprsThatAreAlike(t *testing.T) {
	r := rand.New(rand.NewSource(21))
	for _, text := range sampleNormalings() {
		want, _ := impl.NormalOf(text)
		checkNormalOf(t, withOthers(r, text), want)
		plain, _ := impl.ExprPlain(text)
		checkNormalOf(t, plain, want)
	}
}

// P44.
func TestNormalOfNormalSamples(t *testing.T) {
	for _, text := range sampleNormals() {
		made, ok := impl.NormalOf(text)
		if !ok || !impl.NormalIs(made) || !impl.ExprAlike(made, text) || impl.NormalLets(made) != impl.NormalLets(text) {
			t.Errorf("NormalOf(%q) is %q, %v", cut(text), cut(made), ok)
		}
		checkNormalOf(t, text, plainOf(text))
	}
}

// P45.
func TestWhatNormalOfMadeKeeps(t *testing.T) {
	sorted := func(text string) []string {
		names, _ := impl.ExprFree(text)
		slices.Sort(names)
		return names
	}
	typed := 0
	for _, text := range sampleNormalings() {
		made, ok := impl.NormalOf(text)
		if !ok {
			continue
		}
		if !impl.NormalIs(made) || !slices.Equal(sorted(made), sorted(text)) {
			t.Errorf("NormalOf(%q) is %q", cut(text), cut(made))
		}
		if again, ok := impl.NormalOf(made); !ok || !impl.ExprAlike(again, made) || again != plainOf(made) {
			t.Errorf("NormalOf(%q) is %q, %v", cut(made), cut(again), ok)
		}
		for _, e := range sampleEnvs() {
			kind, ok := impl.ExprType(e.names, e.types, text)
			checkType(t, e, made, kind)
			if ok {
				typed++
			}
		}
	}
	if typed < 1000 {
		t.Errorf("just %d samples have a type", typed)
	}
}

func TestTypesOfSomeNormalExprs(t *testing.T) {
	e := envOf("y0 (* i i)", "x0 (> i (* i i))", "a i", "f (> (* i i) i)")
	cases := map[string]string{
		"(pair (fst y0) (call f (call x0 (+ a 1))))":            "(* i i)",
		"(let y0 (snd y0) (+ y0 (* y0 a)))":                     "i",
		"(if (call f y0) (fst (call x0 1)) (+ a (snd y0)))":     "i",
		"(fun x0 y0 i i (call x0 (+ y0 (call f (pair a y0)))))": "(> i i)",
		"(let a (let a (pair a a) (call f a)) (pair a y0))":     "(* i (* i i))",
		"(+ (fst y0) (fst a))":                                  "",
		"(let b (fst (fst y0)) 1)":                              "",
		"(if (pair 1 2) (+ 1 2) (+ 3 4))":                       "",
		"(pair y0 (call f (+ 1 2)))":                            "",
		"(+ 1 (* 2 z))":                                         "",
	}
	for text, kind := range cases {
		made, ok := impl.NormalOf(text)
		if !ok {
			t.Errorf("NormalOf(%q) fails", text)
		}
		checkType(t, e, text, kind)
		checkType(t, e, made, kind)
	}
}

// P46.
func TestValuesOfNormalExprs(t *testing.T) {
	both, stuck := 0, 0
	for _, text := range sampleClosed() {
		made, ok := impl.NormalOf(text)
		if !ok {
			continue
		}
		checkNormalOf(t, text, normalOf(text))
		printed, _, ok := impl.Eval(text, impl.FuelMax)
		again, _, done := impl.Eval(made, impl.FuelMax)
		if ok && (impl.EvalStuck(made, impl.FuelMax) || done && again != printed) {
			t.Errorf("%q is evaluated to %q, and %q to %q, or until it is stuck", cut(text), cut(printed), cut(made), cut(again))
		}
		if impl.EvalStuck(text, impl.FuelMax) != impl.EvalStuck(made, impl.FuelMax) {
			t.Errorf("just one of %q and %q is evaluated until it is stuck", cut(text), cut(made))
		}
		if ok && done {
			both++
		}
		if impl.EvalStuck(made, impl.FuelMax) {
			stuck++
		}
	}
	if both < 1000 || stuck < 200 {
		t.Errorf("of the samples %d are evaluated both ways, and %d until they are stuck", both, stuck)
	}
}

func TestValuesOfSomeNormalExprs(t *testing.T) {
	cases := map[string]string{
		"(+ (* 2 3) (- 10 (+ 1 2)))": "13",
		"(let a (let b (+ 1 2) (* b b)) (let c (let d a (+ d 1)) (pair a c)))":           "(pair 9 10)",
		"(call (fun f x i i (if x 1 (* x (call f (- x 1))))) (+ 2 3))":                   "120",
		"(if (- 1 1) (let a 3 (+ a a)) (fst 1))":                                         "6",
		"(if (+ 1 1) (fst 1) (let a 3 (* a (let b a (+ b 1)))))":                         "12",
		"(let a (fun f x i i (fst (fst x))) (pair a (snd (pair 1 (let b 2 b)))))":        "(pair fun 2)",
		"(call (let k (+ 1 2) (fun f x i i (+ k (let y (* x x) y)))) (let k 5 (+ k k)))": "103",
		"(let a 5 (let b (fun f x i i (+ x (+ a 1))) (let a 7 (call b (+ a a)))))":       "20",
	}
	for text, want := range cases {
		made, ok := impl.NormalOf(text)
		if !ok || !impl.NormalIs(made) {
			t.Errorf("NormalOf(%q) is %q, %v", text, made, ok)
		}
		for _, e := range []string{text, made} {
			if printed, _, ok := impl.Eval(e, impl.FuelMax); !ok || printed != want || impl.EvalStuck(e, impl.FuelMax) {
				t.Errorf("Eval(%q) is %q, %v, not %q", e, printed, ok, want)
			}
		}
	}
}
