package tests

import (
	"slices"
	"testing"
)

// selfCalls are functions that are free in their own bodies, with no, one and several captured names.
func selfCalls() []handmade {
	return []handmade{
		// (fun x0 x1 i i (call x0 x1))
		{"(fun f x i i (call f x))", "(> i i)",
			"(new 4) (lab 5 b0) (new 6 5 4) (pack 7 6 X[(> i i)] (t)) (open 8 3) (get 9 8 0) (get 10 8 1) (mov 0 10) (mov 1 7) (jump 9)",
			"b0 (t) i K[i]: (lab 3 b0) (new 4 3 0) (pack 5 4 X[(> i i)] (t)) (open 6 5) (get 7 6 0) (get 8 6 1) (mov 0 8) (mov 1 1) (mov 2 2) (jump 7)",
		},
		// (let y2 (fun x0 x1 i i (if x1 1 (let y0 (- x1 1) (let y1 (call x0 y0) (* x1 y1))))) (call y2 5))
		{"(call (fun f x i i (if x 1 (* x (call f (- x 1))))) 5)", "i",
			"(new 4) (lab 5 b0) (new 6 5 4) (pack 7 6 X[(> i i)] (t)) (const 8 5) (open 9 7) (get 10 9 0) (get 11 9 1) (mov 0 11) (mov 1 8) (mov 2 3) (jump 10)",
			"b0 (t) i K[i]: (lab 3 b0) (new 4 3 0) (pack 5 4 X[(> i i)] (t)) (zero 1 b1) (const 6 1) (sub 7 1 6) (new 8 1 2) (lab 9 b2) (new 10 9 8) (pack 11 10 K[i] (t i K[i])) (open 12 5) (get 13 12 0) (get 14 12 1) (mov 0 14) (mov 1 7) (mov 2 11) (jump 13)",
			"b1 (t) i K[i] (c (t) i K[i]) (t (c (t) i K[i]) (t)) X[(> i i)]: (const 6 1) (open 7 2) (get 8 7 0) (get 9 7 1) (mov 0 9) (mov 1 6) (jump 8)",
			"b2 (t i K[i]) i: (get 2 0 0) (get 3 0 1) (mul 4 2 1) (open 5 3) (get 6 5 0) (get 7 5 1) (mov 0 7) (mov 1 4) (jump 6)",
		},
		// (let x0 3 (fun x1 x2 i i (if x2 x0 (let y0 (- x2 1) (call x1 y0)))))
		{"(let a 3 (fun f x i i (if x a (call f (- x 1)))))", "(> i i)",
			"(const 4 3) (new 5 4) (lab 6 b0) (new 7 6 5) (pack 8 7 X[(> i i)] (t i)) (open 9 3) (get 10 9 0) (get 11 9 1) (mov 0 11) (mov 1 8) (jump 10)",
			"b0 (t i) i K[i]: (get 3 0 0) (lab 4 b0) (new 5 4 0) (pack 6 5 X[(> i i)] (t i)) (zero 1 b1) (const 7 1) (sub 8 1 7) (open 9 6) (get 10 9 0) (get 11 9 1) (mov 0 11) (mov 1 8) (mov 2 2) (jump 10)",
			"b1 (t i) i K[i] i (c (t i) i K[i]) (t (c (t i) i K[i]) (t i)) X[(> i i)]: (open 7 2) (get 8 7 0) (get 9 7 1) (mov 0 9) (mov 1 3) (jump 8)",
		},
		// (let x0 1 (let x1 (pair 2 x0) (fun x2 x3 i (* i i) (if x3 (call x2 x0) x1))))
		{"(let a 1 (let b (pair 2 a) (fun f x i (* i i) (if x (call f a) b))))", "(> i (* i i))",
			"(const 4 1) (const 5 2) (new 6 5 4) (new 7 4 6) (lab 8 b0) (new 9 8 7) (pack 10 9 X[(> i (* i i))] (t i (t i i))) (open 11 3) (get 12 11 0) (get 13 11 1) (mov 0 13) (mov 1 10) (jump 12)",
			"b0 (t i (t i i)) i K[(* i i)]: (get 3 0 0) (get 4 0 1) (lab 5 b0) (new 6 5 0) (pack 7 6 X[(> i (* i i))] (t i (t i i))) (zero 1 b1) (open 8 2) (get 9 8 0) (get 10 8 1) (mov 0 10) (mov 1 4) (jump 9)",
			"b1 (t i (t i i)) i K[(* i i)] i (t i i) (c (t i (t i i)) i K[(* i i)]) (t (c (t i (t i i)) i K[(* i i)]) (t i (t i i))) X[(> i (* i i))]: (open 8 7) (get 9 8 0) (get 10 8 1) (mov 0 10) (mov 1 3) (mov 2 2) (jump 9)",
		},
		// (fun x0 x1 i (* i i) (let x2 x0 (call x2 x1)))
		{"(fun f x i (* i i) (let g f (call g x)))", "(> i (* i i))",
			"(new 4) (lab 5 b0) (new 6 5 4) (pack 7 6 X[(> i (* i i))] (t)) (open 8 3) (get 9 8 0) (get 10 8 1) (mov 0 10) (mov 1 7) (jump 9)",
			"b0 (t) i K[(* i i)]: (lab 3 b0) (new 4 3 0) (pack 5 4 X[(> i (* i i))] (t)) (open 6 5) (get 7 6 0) (get 8 6 1) (mov 0 8) (mov 1 1) (mov 2 2) (jump 7)",
		},
		// (let x0 7 (fun x1 x2 i (> i i) (fun x3 x4 i i (let y0 (call x1 x4) (let y1 (call y0 x2) (+ y1 x0))))))
		{"(let a 7 (fun f x i (> i i) (fun g y i i (+ (call (call f y) x) a))))", "(> i (> i i))",
			"(const 4 7) (new 5 4) (lab 6 b0) (new 7 6 5) (pack 8 7 X[(> i (> i i))] (t i)) (open 9 3) (get 10 9 0) (get 11 9 1) (mov 0 11) (mov 1 8) (jump 10)",
			"b0 (t i) i K[(> i i)]: (get 3 0 0) (lab 4 b0) (new 5 4 0) (pack 6 5 X[(> i (> i i))] (t i)) (new 7 6 1 3) (lab 8 b1) (new 9 8 7) (pack 10 9 X[(> i i)] (t X[(> i (> i i))] i i)) (open 11 2) (get 12 11 0) (get 13 11 1) (mov 0 13) (mov 1 10) (jump 12)",
			"b1 (t X[(> i (> i i))] i i) i K[i]: (get 3 0 0) (get 4 0 1) (get 5 0 2) (new 6 4 5 2) (lab 7 b2) (new 8 7 6) (pack 9 8 K[(> i i)] (t i i K[i])) (open 10 3) (get 11 10 0) (get 12 10 1) (mov 0 12) (mov 1 1) (mov 2 9) (jump 11)",
			"b2 (t i i K[i]) X[(> i i)]: (get 2 0 0) (get 3 0 1) (get 4 0 2) (new 5 3 4) (lab 6 b3) (new 7 6 5) (pack 8 7 K[i] (t i K[i])) (open 9 1) (get 10 9 0) (get 11 9 1) (mov 0 11) (mov 1 2) (mov 2 8) (jump 10)",
			"b3 (t i K[i]) i: (get 2 0 0) (get 3 0 1) (add 4 1 2) (open 5 3) (get 6 5 0) (get 7 5 1) (mov 0 7) (mov 1 4) (jump 6)",
		},
	}
}

// captures are functions that shadow their names, and that capture names: in the order of ExprFree, which is that of the normal expression.
func captures() []handmade {
	return []handmade{
		// (fun x0 x1 i i (let x2 (+ x1 1) x2))
		{"(fun f x i i (let x (+ x 1) x))", "(> i i)",
			"(new 4) (lab 5 b0) (new 6 5 4) (pack 7 6 X[(> i i)] (t)) (open 8 3) (get 9 8 0) (get 10 8 1) (mov 0 10) (mov 1 7) (jump 9)",
			"b0 (t) i K[i]: (const 3 1) (add 4 1 3) (open 5 2) (get 6 5 0) (get 7 5 1) (mov 0 7) (mov 1 4) (jump 6)",
		},
		// (fun x0 x1 i i (let x2 1 (+ x2 x1)))
		{"(fun f x i i (let f 1 (+ f x)))", "(> i i)",
			"(new 4) (lab 5 b0) (new 6 5 4) (pack 7 6 X[(> i i)] (t)) (open 8 3) (get 9 8 0) (get 10 8 1) (mov 0 10) (mov 1 7) (jump 9)",
			"b0 (t) i K[i]: (const 3 1) (add 4 3 1) (open 5 2) (get 6 5 0) (get 7 5 1) (mov 0 7) (mov 1 4) (jump 6)",
		},
		// (fun x0 x1 i (> i i) (fun x2 x3 i i x3))
		{"(fun f x i (> i i) (fun g f i i f))", "(> i (> i i))",
			"(new 4) (lab 5 b0) (new 6 5 4) (pack 7 6 X[(> i (> i i))] (t)) (open 8 3) (get 9 8 0) (get 10 8 1) (mov 0 10) (mov 1 7) (jump 9)",
			"b0 (t) i K[(> i i)]: (new 3) (lab 4 b1) (new 5 4 3) (pack 6 5 X[(> i i)] (t)) (open 7 2) (get 8 7 0) (get 9 7 1) (mov 0 9) (mov 1 6) (jump 8)",
			"b1 (t) i K[i]: (open 3 2) (get 4 3 0) (get 5 3 1) (mov 0 5) (mov 1 1) (jump 4)",
		},
		// (fun x0 x1 i i (let x2 (call x0 x1) (let x3 x2 x3)))
		{"(fun x f i i (let f (call x f) (let x f x)))", "(> i i)",
			"(new 4) (lab 5 b0) (new 6 5 4) (pack 7 6 X[(> i i)] (t)) (open 8 3) (get 9 8 0) (get 10 8 1) (mov 0 10) (mov 1 7) (jump 9)",
			"b0 (t) i K[i]: (lab 3 b0) (new 4 3 0) (pack 5 4 X[(> i i)] (t)) (new 6 2) (lab 7 b1) (new 8 7 6) (pack 9 8 K[i] (t K[i])) (open 10 5) (get 11 10 0) (get 12 10 1) (mov 0 12) (mov 1 1) (mov 2 9) (jump 11)",
			"b1 (t K[i]) i: (get 2 0 0) (open 3 2) (get 4 3 0) (get 5 3 1) (mov 0 5) (mov 1 1) (jump 4)",
		},
		// (let x0 (fun x1 x2 i i x2) (fun x3 x4 i i (call x0 x4)))
		{"(let g (fun f x i i x) (fun h y i i (call g y)))", "(> i i)",
			"(new 4) (lab 5 b0) (new 6 5 4) (pack 7 6 X[(> i i)] (t)) (new 8 7) (lab 9 b1) (new 10 9 8) (pack 11 10 X[(> i i)] (t X[(> i i)])) (open 12 3) (get 13 12 0) (get 14 12 1) (mov 0 14) (mov 1 11) (jump 13)",
			"b0 (t) i K[i]: (open 3 2) (get 4 3 0) (get 5 3 1) (mov 0 5) (mov 1 1) (jump 4)",
			"b1 (t X[(> i i)]) i K[i]: (get 3 0 0) (open 4 3) (get 5 4 0) (get 6 4 1) (mov 0 6) (mov 1 1) (mov 2 2) (jump 5)",
		},
		// (let x0 1 (let x1 2 (let x2 3 (fun x3 x4 i i (let y0 (+ x2 x1) (let y1 (+ x0 y0) (+ x2 y1)))))))
		{"(let a 1 (let b 2 (let c 3 (fun f x i i (+ c (+ a (+ c b)))))))", "(> i i)",
			"(const 4 1) (const 5 2) (const 6 3) (new 7 6 5 4) (lab 8 b0) (new 9 8 7) (pack 10 9 X[(> i i)] (t i i i)) (open 11 3) (get 12 11 0) (get 13 11 1) (mov 0 13) (mov 1 10) (jump 12)",
			"b0 (t i i i) i K[i]: (get 3 0 0) (get 4 0 1) (get 5 0 2) (add 6 3 4) (add 7 5 6) (add 8 3 7) (open 9 2) (get 10 9 0) (get 11 9 1) (mov 0 11) (mov 1 8) (jump 10)",
		},
		// (let x0 1 (let x1 2 (fun x2 x3 i i (let y0 (* x0 x0) (let y1 (- x1 x0) (- y0 y1))))))
		{"(let a 1 (let b 2 (fun f x i i (- (* a a) (- b a)))))", "(> i i)",
			"(const 4 1) (const 5 2) (new 6 4 5) (lab 7 b0) (new 8 7 6) (pack 9 8 X[(> i i)] (t i i)) (open 10 3) (get 11 10 0) (get 12 10 1) (mov 0 12) (mov 1 9) (jump 11)",
			"b0 (t i i) i K[i]: (get 3 0 0) (get 4 0 1) (mul 5 3 3) (sub 6 4 3) (sub 7 5 6) (open 8 2) (get 9 8 0) (get 10 8 1) (mov 0 10) (mov 1 7) (jump 9)",
		},
		// (let x0 1 (let x1 (+ x0 1) (fun x2 x3 i i x1)))
		{"(let a 1 (let a (+ a 1) (fun f x i i a)))", "(> i i)",
			"(const 4 1) (const 5 1) (add 6 4 5) (new 7 6) (lab 8 b0) (new 9 8 7) (pack 10 9 X[(> i i)] (t i)) (open 11 3) (get 12 11 0) (get 13 11 1) (mov 0 13) (mov 1 10) (jump 12)",
			"b0 (t i) i K[i]: (get 3 0 0) (open 4 2) (get 5 4 0) (get 6 4 1) (mov 0 6) (mov 1 3) (jump 5)",
		},
		// (let x0 1 (let x1 x0 (fun x2 x3 i (* i i) (pair x1 x0))))
		{"(let a 1 (let b a (fun f x i (* i i) (pair b a))))", "(> i (* i i))",
			"(const 4 1) (new 5 4 4) (lab 6 b0) (new 7 6 5) (pack 8 7 X[(> i (* i i))] (t i i)) (open 9 3) (get 10 9 0) (get 11 9 1) (mov 0 11) (mov 1 8) (jump 10)",
			"b0 (t i i) i K[(* i i)]: (get 3 0 0) (get 4 0 1) (new 5 3 4) (open 6 2) (get 7 6 0) (get 8 6 1) (mov 0 8) (mov 1 5) (jump 7)",
		},
		// (fun x0 x1 (> i i) (> i i) (fun x2 x3 i i (let y0 (call x1 x3) (call x1 y0))))
		{"(fun f x (> i i) (> i i) (fun g y i i (call x (call x y))))", "(> (> i i) (> i i))",
			"(new 4) (lab 5 b0) (new 6 5 4) (pack 7 6 X[(> (> i i) (> i i))] (t)) (open 8 3) (get 9 8 0) (get 10 8 1) (mov 0 10) (mov 1 7) (jump 9)",
			"b0 (t) X[(> i i)] K[(> i i)]: (new 3 1) (lab 4 b1) (new 5 4 3) (pack 6 5 X[(> i i)] (t X[(> i i)])) (open 7 2) (get 8 7 0) (get 9 7 1) (mov 0 9) (mov 1 6) (jump 8)",
			"b1 (t X[(> i i)]) i K[i]: (get 3 0 0) (new 4 3 2) (lab 5 b2) (new 6 5 4) (pack 7 6 K[i] (t X[(> i i)] K[i])) (open 8 3) (get 9 8 0) (get 10 8 1) (mov 0 10) (mov 1 1) (mov 2 7) (jump 9)",
			"b2 (t X[(> i i)] K[i]) i: (get 2 0 0) (get 3 0 1) (open 4 2) (get 5 4 0) (get 6 4 1) (mov 0 6) (mov 1 1) (mov 2 3) (jump 5)",
		},
	}
}

// labelOrders have several labels given in a block, and in blocks that are made later.
func labelOrders() []handmade {
	return []handmade{
		// (let y0 (fun x0 x1 i i x1) (let y1 (fun x2 x3 i i 1) (pair y0 y1)))
		{"(pair (fun f x i i x) (fun g y i i 1))", "(* (> i i) (> i i))",
			"(new 4) (lab 5 b0) (new 6 5 4) (pack 7 6 X[(> i i)] (t)) (new 8) (lab 9 b1) (new 10 9 8) (pack 11 10 X[(> i i)] (t)) (new 12 7 11) (open 13 3) (get 14 13 0) (get 15 13 1) (mov 0 15) (mov 1 12) (jump 14)",
			"b0 (t) i K[i]: (open 3 2) (get 4 3 0) (get 5 3 1) (mov 0 5) (mov 1 1) (jump 4)",
			"b1 (t) i K[i]: (const 3 1) (open 4 2) (get 5 4 0) (get 6 4 1) (mov 0 6) (mov 1 3) (jump 5)",
		},
		// (let y0 (fun x0 x1 i (> i i) (fun x2 x3 i i x1)) (let y1 (fun x4 x5 i i x5) (pair y0 y1)))
		{"(pair (fun f x i (> i i) (fun g y i i x)) (fun h z i i z))", "(* (> i (> i i)) (> i i))",
			"(new 4) (lab 5 b0) (new 6 5 4) (pack 7 6 X[(> i (> i i))] (t)) (new 8) (lab 9 b1) (new 10 9 8) (pack 11 10 X[(> i i)] (t)) (new 12 7 11) (open 13 3) (get 14 13 0) (get 15 13 1) (mov 0 15) (mov 1 12) (jump 14)",
			"b0 (t) i K[(> i i)]: (new 3 1) (lab 4 b2) (new 5 4 3) (pack 6 5 X[(> i i)] (t i)) (open 7 2) (get 8 7 0) (get 9 7 1) (mov 0 9) (mov 1 6) (jump 8)",
			"b1 (t) i K[i]: (open 3 2) (get 4 3 0) (get 5 3 1) (mov 0 5) (mov 1 1) (jump 4)",
			"b2 (t i) i K[i]: (get 3 0 0) (open 4 2) (get 5 4 0) (get 6 4 1) (mov 0 6) (mov 1 3) (jump 5)",
		},
		// (if 0 (if 1 2 3) (if 4 5 6))
		{"(if 0 (if 1 2 3) (if 4 5 6))", "i",
			"(const 4 0) (zero 4 b0) (const 5 4) (zero 5 b1) (const 6 6) (open 7 3) (get 8 7 0) (get 9 7 1) (mov 0 9) (mov 1 6) (jump 8)",
			"b0 (t) (c (t) i) (t (c (t) i) (t)) K[i] i: (const 5 1) (zero 5 b2) (const 6 3) (open 7 3) (get 8 7 0) (get 9 7 1) (mov 0 9) (mov 1 6) (jump 8)",
			"b1 (t) (c (t) i) (t (c (t) i) (t)) K[i] i i: (const 6 5) (open 7 3) (get 8 7 0) (get 9 7 1) (mov 0 9) (mov 1 6) (jump 8)",
			"b2 (t) (c (t) i) (t (c (t) i) (t)) K[i] i i: (const 6 2) (open 7 3) (get 8 7 0) (get 9 7 1) (mov 0 9) (mov 1 6) (jump 8)",
		},
		// (if 0 (fun x0 x1 i i 1) (fun x2 x3 i i 2))
		{"(if 0 (fun f x i i 1) (fun f x i i 2))", "(> i i)",
			"(const 4 0) (zero 4 b0) (new 5) (lab 6 b1) (new 7 6 5) (pack 8 7 X[(> i i)] (t)) (open 9 3) (get 10 9 0) (get 11 9 1) (mov 0 11) (mov 1 8) (jump 10)",
			"b0 (t) (c (t) X[(> i i)]) (t (c (t) X[(> i i)]) (t)) K[(> i i)] i: (new 5) (lab 6 b2) (new 7 6 5) (pack 8 7 X[(> i i)] (t)) (open 9 3) (get 10 9 0) (get 11 9 1) (mov 0 11) (mov 1 8) (jump 10)",
			"b1 (t) i K[i]: (const 3 2) (open 4 2) (get 5 4 0) (get 6 4 1) (mov 0 6) (mov 1 3) (jump 5)",
			"b2 (t) i K[i]: (const 3 1) (open 4 2) (get 5 4 0) (get 6 4 1) (mov 0 6) (mov 1 3) (jump 5)",
		},
		// (let x0 (fun x1 x2 i i x2) (let x3 (call x0 1) (let x4 (call x0 x3) (+ x3 x4))))
		{"(let g (fun f x i i x) (let a (call g 1) (let b (call g a) (+ a b))))", "i",
			"(new 4) (lab 5 b0) (new 6 5 4) (pack 7 6 X[(> i i)] (t)) (const 8 1) (new 9 7 3) (lab 10 b1) (new 11 10 9) (pack 12 11 K[i] (t X[(> i i)] K[i])) (open 13 7) (get 14 13 0) (get 15 13 1) (mov 0 15) (mov 1 8) (mov 2 12) (jump 14)",
			"b0 (t) i K[i]: (open 3 2) (get 4 3 0) (get 5 3 1) (mov 0 5) (mov 1 1) (jump 4)",
			"b1 (t X[(> i i)] K[i]) i: (get 2 0 0) (get 3 0 1) (new 4 1 3) (lab 5 b2) (new 6 5 4) (pack 7 6 K[i] (t i K[i])) (open 8 2) (get 9 8 0) (get 10 8 1) (mov 0 10) (mov 1 1) (mov 2 7) (jump 9)",
			"b2 (t i K[i]) i: (get 2 0 0) (get 3 0 1) (add 4 2 1) (open 5 3) (get 6 5 0) (get 7 5 1) (mov 0 7) (mov 1 4) (jump 6)",
		},
	}
}

// restLabels have labels of rests between those of others.
func restLabels() []handmade {
	return []handmade{
		// (let x0 (fun x1 x2 i i x2) (let x3 (call x0 1) (fun x4 x5 i i (+ x5 x3))))
		{"(let g (fun f x i i x) (let a (call g 1) (fun h y i i (+ y a))))", "(> i i)",
			"(new 4) (lab 5 b0) (new 6 5 4) (pack 7 6 X[(> i i)] (t)) (const 8 1) (new 9 3) (lab 10 b1) (new 11 10 9) (pack 12 11 K[i] (t K[(> i i)])) (open 13 7) (get 14 13 0) (get 15 13 1) (mov 0 15) (mov 1 8) (mov 2 12) (jump 14)",
			"b0 (t) i K[i]: (open 3 2) (get 4 3 0) (get 5 3 1) (mov 0 5) (mov 1 1) (jump 4)",
			"b1 (t K[(> i i)]) i: (get 2 0 0) (new 3 1) (lab 4 b2) (new 5 4 3) (pack 6 5 X[(> i i)] (t i)) (open 7 2) (get 8 7 0) (get 9 7 1) (mov 0 9) (mov 1 6) (jump 8)",
			"b2 (t i) i K[i]: (get 3 0 0) (add 4 1 3) (open 5 2) (get 6 5 0) (get 7 5 1) (mov 0 7) (mov 1 4) (jump 6)",
		},
		// (let x0 (fun x1 x2 i i x2) (let x3 (if 0 (call x0 1) 2) (let x4 (call x0 x3) (if x4 x3 3))))
		{"(let g (fun f x i i x) (let a (if 0 (call g 1) 2) (let b (call g a) (if b a 3))))", "i",
			"(new 4) (lab 5 b0) (new 6 5 4) (pack 7 6 X[(> i i)] (t)) (const 8 0) (new 9 7 3) (lab 10 b1) (new 11 10 9) (pack 12 11 K[i] (t X[(> i i)] K[i])) (zero 8 b2) (const 13 2) (open 14 12) (get 15 14 0) (get 16 14 1) (mov 0 16) (mov 1 13) (jump 15)",
			"b0 (t) i K[i]: (open 3 2) (get 4 3 0) (get 5 3 1) (mov 0 5) (mov 1 1) (jump 4)",
			"b1 (t X[(> i i)] K[i]) i: (get 2 0 0) (get 3 0 1) (new 4 1 3) (lab 5 b3) (new 6 5 4) (pack 7 6 K[i] (t i K[i])) (open 8 2) (get 9 8 0) (get 10 8 1) (mov 0 10) (mov 1 1) (mov 2 7) (jump 9)",
			"b2 (t) (c (t) i) (t (c (t) i) (t)) K[i] (t) (c (t) i K[i]) (t (c (t) i K[i]) (t)) X[(> i i)] i (t X[(> i i)] K[i]) (c (t X[(> i i)] K[i]) i) (t (c (t X[(> i i)] K[i]) i) (t X[(> i i)] K[i])) K[i]: (const 13 1) (open 14 7) (get 15 14 0) (get 16 14 1) (mov 0 16) (mov 1 13) (mov 2 12) (jump 15)",
			"b3 (t i K[i]) i: (get 2 0 0) (get 3 0 1) (zero 1 b4) (const 4 3) (open 5 3) (get 6 5 0) (get 7 5 1) (mov 0 7) (mov 1 4) (jump 6)",
			"b4 (t i K[i]) i i K[i]: (open 4 3) (get 5 4 0) (get 6 4 1) (mov 0 6) (mov 1 2) (jump 5)",
		},
		// (let x0 (if 0 (if 1 2 3) 4) (+ x0 x0))
		{"(let a (if 0 (if 1 2 3) 4) (+ a a))", "i",
			"(const 4 0) (new 5 3) (lab 6 b0) (new 7 6 5) (pack 8 7 K[i] (t K[i])) (zero 4 b1) (const 9 4) (open 10 8) (get 11 10 0) (get 12 10 1) (mov 0 12) (mov 1 9) (jump 11)",
			"b0 (t K[i]) i: (get 2 0 0) (add 3 1 1) (open 4 2) (get 5 4 0) (get 6 4 1) (mov 0 6) (mov 1 3) (jump 5)",
			"b1 (t) (c (t) i) (t (c (t) i) (t)) K[i] i (t K[i]) (c (t K[i]) i) (t (c (t K[i]) i) (t K[i])) K[i]: (const 9 1) (zero 9 b2) (const 10 3) (open 11 8) (get 12 11 0) (get 13 11 1) (mov 0 13) (mov 1 10) (jump 12)",
			"b2 (t) (c (t) i) (t (c (t) i) (t)) K[i] i (t K[i]) (c (t K[i]) i) (t (c (t K[i]) i) (t K[i])) K[i] i: (const 10 2) (open 11 8) (get 12 11 0) (get 13 11 1) (mov 0 13) (mov 1 10) (jump 12)",
		},
		// (let x1 (if 0 1 2) (let x0 (if x1 3 4) (if x0 5 6)))
		{"(let a (let b (if 0 1 2) (if b 3 4)) (if a 5 6))", "i",
			"(const 4 0) (new 5 3) (lab 6 b0) (new 7 6 5) (pack 8 7 K[i] (t K[i])) (zero 4 b1) (const 9 2) (open 10 8) (get 11 10 0) (get 12 10 1) (mov 0 12) (mov 1 9) (jump 11)",
			"b0 (t K[i]) i: (get 2 0 0) (new 3 2) (lab 4 b2) (new 5 4 3) (pack 6 5 K[i] (t K[i])) (zero 1 b3) (const 7 4) (open 8 6) (get 9 8 0) (get 10 8 1) (mov 0 10) (mov 1 7) (jump 9)",
			"b1 (t) (c (t) i) (t (c (t) i) (t)) K[i] i (t K[i]) (c (t K[i]) i) (t (c (t K[i]) i) (t K[i])) K[i]: (const 9 1) (open 10 8) (get 11 10 0) (get 12 10 1) (mov 0 12) (mov 1 9) (jump 11)",
			"b2 (t K[i]) i: (get 2 0 0) (zero 1 b4) (const 3 6) (open 4 2) (get 5 4 0) (get 6 4 1) (mov 0 6) (mov 1 3) (jump 5)",
			"b3 (t K[i]) i K[i] (t K[i]) (c (t K[i]) i) (t (c (t K[i]) i) (t K[i])) K[i]: (const 7 3) (open 8 6) (get 9 8 0) (get 10 8 1) (mov 0 10) (mov 1 7) (jump 9)",
			"b4 (t K[i]) i K[i]: (const 3 5) (open 4 2) (get 5 4 0) (get 6 4 1) (mov 0 6) (mov 1 3) (jump 5)",
		},
		// (let x0 1 (if x0 (let x1 (if x0 2 3) (+ x0 x1)) (let x2 (if x0 4 5) (* x2 x0))))
		{"(let a 1 (if a (let b (if a 2 3) (+ a b)) (let c (if a 4 5) (* c a))))", "i",
			"(const 4 1) (zero 4 b0) (new 5 4 3) (lab 6 b1) (new 7 6 5) (pack 8 7 K[i] (t i K[i])) (zero 4 b2) (const 9 5) (open 10 8) (get 11 10 0) (get 12 10 1) (mov 0 12) (mov 1 9) (jump 11)",
			"b0 (t) (c (t) i) (t (c (t) i) (t)) K[i] i: (new 5 4 3) (lab 6 b3) (new 7 6 5) (pack 8 7 K[i] (t i K[i])) (zero 4 b4) (const 9 3) (open 10 8) (get 11 10 0) (get 12 10 1) (mov 0 12) (mov 1 9) (jump 11)",
			"b1 (t i K[i]) i: (get 2 0 0) (get 3 0 1) (mul 4 1 2) (open 5 3) (get 6 5 0) (get 7 5 1) (mov 0 7) (mov 1 4) (jump 6)",
			"b2 (t) (c (t) i) (t (c (t) i) (t)) K[i] i (t i K[i]) (c (t i K[i]) i) (t (c (t i K[i]) i) (t i K[i])) K[i]: (const 9 4) (open 10 8) (get 11 10 0) (get 12 10 1) (mov 0 12) (mov 1 9) (jump 11)",
			"b3 (t i K[i]) i: (get 2 0 0) (get 3 0 1) (add 4 2 1) (open 5 3) (get 6 5 0) (get 7 5 1) (mov 0 7) (mov 1 4) (jump 6)",
			"b4 (t) (c (t) i) (t (c (t) i) (t)) K[i] i (t i K[i]) (c (t i K[i]) i) (t (c (t i K[i]) i) (t i K[i])) K[i]: (const 9 2) (open 10 8) (get 11 10 0) (get 12 10 1) (mov 0 12) (mov 1 9) (jump 11)",
		},
		// (if 0 (fun x0 x1 i i 1) (let x2 (fun x3 x4 i i x4) (let x5 (call x2 2) (fun x6 x7 i i x5))))
		{"(if 0 (fun f x i i 1) (let a (fun f x i i x) (let b (call a 2) (fun g y i i b))))", "(> i i)",
			"(const 4 0) (zero 4 b0) (new 5) (lab 6 b1) (new 7 6 5) (pack 8 7 X[(> i i)] (t)) (const 9 2) (new 10 3) (lab 11 b2) (new 12 11 10) (pack 13 12 K[i] (t K[(> i i)])) (open 14 8) (get 15 14 0) (get 16 14 1) (mov 0 16) (mov 1 9) (mov 2 13) (jump 15)",
			"b0 (t) (c (t) X[(> i i)]) (t (c (t) X[(> i i)]) (t)) K[(> i i)] i: (new 5) (lab 6 b3) (new 7 6 5) (pack 8 7 X[(> i i)] (t)) (open 9 3) (get 10 9 0) (get 11 9 1) (mov 0 11) (mov 1 8) (jump 10)",
			"b1 (t) i K[i]: (open 3 2) (get 4 3 0) (get 5 3 1) (mov 0 5) (mov 1 1) (jump 4)",
			"b2 (t K[(> i i)]) i: (get 2 0 0) (new 3 1) (lab 4 b4) (new 5 4 3) (pack 6 5 X[(> i i)] (t i)) (open 7 2) (get 8 7 0) (get 9 7 1) (mov 0 9) (mov 1 6) (jump 8)",
			"b3 (t) i K[i]: (const 3 1) (open 4 2) (get 5 4 0) (get 6 4 1) (mov 0 6) (mov 1 3) (jump 5)",
			"b4 (t i) i K[i]: (get 3 0 0) (open 4 2) (get 5 4 0) (get 6 4 1) (mov 0 6) (mov 1 3) (jump 5)",
		},
	}
}

// registerOrders have numerals on each side, names that share a register, and what the block of an if has behind lab, new, pack and get.
func registerOrders() []handmade {
	return []handmade{
		// (let x0 1 (+ x0 2))
		{"(let a 1 (+ a 2))", "i",
			"(const 4 1) (const 5 2) (add 6 4 5) (open 7 3) (get 8 7 0) (get 9 7 1) (mov 0 9) (mov 1 6) (jump 8)",
		},
		// (let x0 1 (- 2 x0))
		{"(let a 1 (- 2 a))", "i",
			"(const 4 1) (const 5 2) (sub 6 5 4) (open 7 3) (get 8 7 0) (get 9 7 1) (mov 0 9) (mov 1 6) (jump 8)",
		},
		// (let x0 1 (pair x0 x0))
		{"(let a 1 (pair a a))", "(* i i)",
			"(const 4 1) (new 5 4 4) (open 6 3) (get 7 6 0) (get 8 6 1) (mov 0 8) (mov 1 5) (jump 7)",
		},
		// (let x0 1 (let x1 2 (let x2 x1 (* x1 x2))))
		{"(let a 1 (let a 2 (let b a (* a b))))", "i",
			"(const 4 1) (const 5 2) (mul 6 5 5) (open 7 3) (get 8 7 0) (get 9 7 1) (mov 0 9) (mov 1 6) (jump 8)",
		},
		// (let x0 (fun x1 x2 i i x2) (let x3 5 (let x4 (call x0 x3) x4)))
		{"(let f (fun f x i i x) (let a 5 (let b (call f a) b)))", "i",
			"(new 4) (lab 5 b0) (new 6 5 4) (pack 7 6 X[(> i i)] (t)) (const 8 5) (new 9 3) (lab 10 b1) (new 11 10 9) (pack 12 11 K[i] (t K[i])) (open 13 7) (get 14 13 0) (get 15 13 1) (mov 0 15) (mov 1 8) (mov 2 12) (jump 14)",
			"b0 (t) i K[i]: (open 3 2) (get 4 3 0) (get 5 3 1) (mov 0 5) (mov 1 1) (jump 4)",
			"b1 (t K[i]) i: (get 2 0 0) (open 3 2) (get 4 3 0) (get 5 3 1) (mov 0 5) (mov 1 1) (jump 4)",
		},
		// (let y0 (fun x1 x2 i i 0) (let x0 (pair 1 y0) (let y1 (fst x0) (if y1 (snd x0) (snd x0)))))
		{"(let a (pair 1 (fun f x i i 0)) (if (fst a) (snd a) (snd a)))", "(> i i)",
			"(new 4) (lab 5 b0) (new 6 5 4) (pack 7 6 X[(> i i)] (t)) (const 8 1) (new 9 8 7) (get 10 9 0) (zero 10 b1) (get 11 9 1) (open 12 3) (get 13 12 0) (get 14 12 1) (mov 0 14) (mov 1 11) (jump 13)",
			"b0 (t) i K[i]: (const 3 0) (open 4 2) (get 5 4 0) (get 6 4 1) (mov 0 6) (mov 1 3) (jump 5)",
			"b1 (t) (c (t) X[(> i i)]) (t (c (t) X[(> i i)]) (t)) K[(> i i)] (t) (c (t) i K[i]) (t (c (t) i K[i]) (t)) X[(> i i)] i (t i X[(> i i)]) i: (get 11 9 1) (open 12 3) (get 13 12 0) (get 14 12 1) (mov 0 14) (mov 1 11) (jump 13)",
		},
		// (let x0 1 (let x1 2 (if x0 (if x1 x0 (+ x0 x1)) (let y0 (- x0 x1) (if y0 x1 x0)))))
		{"(let a 1 (let b 2 (if a (if b a (+ a b)) (if (- a b) b a))))", "i",
			"(const 4 1) (const 5 2) (zero 4 b0) (sub 6 4 5) (zero 6 b1) (open 7 3) (get 8 7 0) (get 9 7 1) (mov 0 9) (mov 1 4) (jump 8)",
			"b0 (t) (c (t) i) (t (c (t) i) (t)) K[i] i i: (zero 5 b2) (add 6 4 5) (open 7 3) (get 8 7 0) (get 9 7 1) (mov 0 9) (mov 1 6) (jump 8)",
			"b1 (t) (c (t) i) (t (c (t) i) (t)) K[i] i i i: (open 7 3) (get 8 7 0) (get 9 7 1) (mov 0 9) (mov 1 5) (jump 8)",
			"b2 (t) (c (t) i) (t (c (t) i) (t)) K[i] i i: (open 6 3) (get 7 6 0) (get 8 6 1) (mov 0 8) (mov 1 4) (jump 7)",
		},
		// (let x0 (if 1 (fun x1 x2 i i x2) (fun x3 x4 i i 7)) (call x0 3))
		{"(let a (if 1 (fun f x i i x) (fun f x i i 7)) (call a 3))", "i",
			"(const 4 1) (new 5 3) (lab 6 b0) (new 7 6 5) (pack 8 7 K[(> i i)] (t K[i])) (zero 4 b1) (new 9) (lab 10 b2) (new 11 10 9) (pack 12 11 X[(> i i)] (t)) (open 13 8) (get 14 13 0) (get 15 13 1) (mov 0 15) (mov 1 12) (jump 14)",
			"b0 (t K[i]) X[(> i i)]: (get 2 0 0) (const 3 3) (open 4 1) (get 5 4 0) (get 6 4 1) (mov 0 6) (mov 1 3) (mov 2 2) (jump 5)",
			"b1 (t) (c (t) i) (t (c (t) i) (t)) K[i] i (t K[i]) (c (t K[i]) X[(> i i)]) (t (c (t K[i]) X[(> i i)]) (t K[i])) K[(> i i)]: (new 9) (lab 10 b3) (new 11 10 9) (pack 12 11 X[(> i i)] (t)) (open 13 8) (get 14 13 0) (get 15 13 1) (mov 0 15) (mov 1 12) (jump 14)",
			"b2 (t) i K[i]: (const 3 7) (open 4 2) (get 5 4 0) (get 6 4 1) (mov 0 6) (mov 1 3) (jump 5)",
			"b3 (t) i K[i]: (open 3 2) (get 4 3 0) (get 5 3 1) (mov 0 5) (mov 1 1) (jump 4)",
		},
		// (fun x0 x1 (* i i) i (let x2 (fst x1) (let x3 (snd x1) (if x2 x3 (call x0 x1)))))
		{"(fun f x (* i i) i (let a (fst x) (let b (snd x) (if a b (call f x)))))", "(> (* i i) i)",
			"(new 4) (lab 5 b0) (new 6 5 4) (pack 7 6 X[(> (* i i) i)] (t)) (open 8 3) (get 9 8 0) (get 10 8 1) (mov 0 10) (mov 1 7) (jump 9)",
			"b0 (t) (t i i) K[i]: (lab 3 b0) (new 4 3 0) (pack 5 4 X[(> (* i i) i)] (t)) (get 6 1 0) (get 7 1 1) (zero 6 b1) (open 8 5) (get 9 8 0) (get 10 8 1) (mov 0 10) (mov 1 1) (mov 2 2) (jump 9)",
			"b1 (t) (t i i) K[i] (c (t) (t i i) K[i]) (t (c (t) (t i i) K[i]) (t)) X[(> (* i i) i)] i i: (open 8 2) (get 9 8 0) (get 10 8 1) (mov 0 10) (mov 1 7) (jump 9)",
		},
	}
}

// cutOffRests are rests of calls with no and several names and with the bound name in use or not, at the end of functions and within each other.
func cutOffRests() []handmade {
	return []handmade{
		// (let y0 (fun x0 x1 i (* i i) (pair x1 1)) (let y1 (call y0 2) (fst y1)))
		{"(fst (call (fun f x i (* i i) (pair x 1)) 2))", "i",
			"(new 4) (lab 5 b0) (new 6 5 4) (pack 7 6 X[(> i (* i i))] (t)) (const 8 2) (new 9 3) (lab 10 b1) (new 11 10 9) (pack 12 11 K[(* i i)] (t K[i])) (open 13 7) (get 14 13 0) (get 15 13 1) (mov 0 15) (mov 1 8) (mov 2 12) (jump 14)",
			"b0 (t) i K[(* i i)]: (const 3 1) (new 4 1 3) (open 5 2) (get 6 5 0) (get 7 5 1) (mov 0 7) (mov 1 4) (jump 6)",
			"b1 (t K[i]) (t i i): (get 2 0 0) (get 3 1 0) (open 4 2) (get 5 4 0) (get 6 4 1) (mov 0 6) (mov 1 3) (jump 5)",
		},
		// (let y0 (fun x0 x1 i (> i i) (fun x2 x3 i i (- x1 x3))) (let y1 (call y0 9) (call y1 2)))
		{"(call (call (fun f x i (> i i) (fun g y i i (- x y))) 9) 2)", "i",
			"(new 4) (lab 5 b0) (new 6 5 4) (pack 7 6 X[(> i (> i i))] (t)) (const 8 9) (new 9 3) (lab 10 b1) (new 11 10 9) (pack 12 11 K[(> i i)] (t K[i])) (open 13 7) (get 14 13 0) (get 15 13 1) (mov 0 15) (mov 1 8) (mov 2 12) (jump 14)",
			"b0 (t) i K[(> i i)]: (new 3 1) (lab 4 b2) (new 5 4 3) (pack 6 5 X[(> i i)] (t i)) (open 7 2) (get 8 7 0) (get 9 7 1) (mov 0 9) (mov 1 6) (jump 8)",
			"b1 (t K[i]) X[(> i i)]: (get 2 0 0) (const 3 2) (open 4 1) (get 5 4 0) (get 6 4 1) (mov 0 6) (mov 1 3) (mov 2 2) (jump 5)",
			"b2 (t i) i K[i]: (get 3 0 0) (sub 4 3 1) (open 5 2) (get 6 5 0) (get 7 5 1) (mov 0 7) (mov 1 4) (jump 6)",
		},
		// (let x0 (fun x1 x2 (* i i) i (fst x2)) (let x3 (pair 1 2) (let x4 (call x0 x3) (let x5 (call x0 x3) (let y0 (snd x3) (pair x4 y0))))))
		{"(let f (fun f x (* i i) i (fst x)) (let p (pair 1 2) (let a (call f p) (let b (call f p) (pair a (snd p))))))", "(* i i)",
			"(new 4) (lab 5 b0) (new 6 5 4) (pack 7 6 X[(> (* i i) i)] (t)) (const 8 1) (const 9 2) (new 10 8 9) (new 11 7 10 3) (lab 12 b1) (new 13 12 11) (pack 14 13 K[i] (t X[(> (* i i) i)] (t i i) K[(* i i)])) (open 15 7) (get 16 15 0) (get 17 15 1) (mov 0 17) (mov 1 10) (mov 2 14) (jump 16)",
			"b0 (t) (t i i) K[i]: (get 3 1 0) (open 4 2) (get 5 4 0) (get 6 4 1) (mov 0 6) (mov 1 3) (jump 5)",
			"b1 (t X[(> (* i i) i)] (t i i) K[(* i i)]) i: (get 2 0 0) (get 3 0 1) (get 4 0 2) (new 5 3 1 4) (lab 6 b2) (new 7 6 5) (pack 8 7 K[i] (t (t i i) i K[(* i i)])) (open 9 2) (get 10 9 0) (get 11 9 1) (mov 0 11) (mov 1 3) (mov 2 8) (jump 10)",
			"b2 (t (t i i) i K[(* i i)]) i: (get 2 0 0) (get 3 0 1) (get 4 0 2) (get 5 2 1) (new 6 3 5) (open 7 4) (get 8 7 0) (get 9 7 1) (mov 0 9) (mov 1 6) (jump 8)",
		},
		// (let x0 (fun x1 x2 i i (* x2 x2)) (let y0 (call x0 2) (let y1 (call x0 y0) (let y2 (call x0 3) (+ y1 y2)))))
		{"(let g (fun f x i i (* x x)) (+ (call g (call g 2)) (call g 3)))", "i",
			"(new 4) (lab 5 b0) (new 6 5 4) (pack 7 6 X[(> i i)] (t)) (const 8 2) (new 9 7 3) (lab 10 b1) (new 11 10 9) (pack 12 11 K[i] (t X[(> i i)] K[i])) (open 13 7) (get 14 13 0) (get 15 13 1) (mov 0 15) (mov 1 8) (mov 2 12) (jump 14)",
			"b0 (t) i K[i]: (mul 3 1 1) (open 4 2) (get 5 4 0) (get 6 4 1) (mov 0 6) (mov 1 3) (jump 5)",
			"b1 (t X[(> i i)] K[i]) i: (get 2 0 0) (get 3 0 1) (new 4 2 3) (lab 5 b2) (new 6 5 4) (pack 7 6 K[i] (t X[(> i i)] K[i])) (open 8 2) (get 9 8 0) (get 10 8 1) (mov 0 10) (mov 1 1) (mov 2 7) (jump 9)",
			"b2 (t X[(> i i)] K[i]) i: (get 2 0 0) (get 3 0 1) (const 4 3) (new 5 1 3) (lab 6 b3) (new 7 6 5) (pack 8 7 K[i] (t i K[i])) (open 9 2) (get 10 9 0) (get 11 9 1) (mov 0 11) (mov 1 4) (mov 2 8) (jump 10)",
			"b3 (t i K[i]) i: (get 2 0 0) (get 3 0 1) (add 4 2 1) (open 5 3) (get 6 5 0) (get 7 5 1) (mov 0 7) (mov 1 4) (jump 6)",
		},
		// (fun x0 x1 i i (let y0 (- x1 1) (let y1 (call x0 y0) (let y2 (- x1 2) (let y3 (call x0 y2) (+ y1 y3))))))
		{"(fun f x i i (+ (call f (- x 1)) (call f (- x 2))))", "(> i i)",
			"(new 4) (lab 5 b0) (new 6 5 4) (pack 7 6 X[(> i i)] (t)) (open 8 3) (get 9 8 0) (get 10 8 1) (mov 0 10) (mov 1 7) (jump 9)",
			"b0 (t) i K[i]: (lab 3 b0) (new 4 3 0) (pack 5 4 X[(> i i)] (t)) (const 6 1) (sub 7 1 6) (new 8 1 5 2) (lab 9 b1) (new 10 9 8) (pack 11 10 K[i] (t i X[(> i i)] K[i])) (open 12 5) (get 13 12 0) (get 14 12 1) (mov 0 14) (mov 1 7) (mov 2 11) (jump 13)",
			"b1 (t i X[(> i i)] K[i]) i: (get 2 0 0) (get 3 0 1) (get 4 0 2) (const 5 2) (sub 6 2 5) (new 7 1 4) (lab 8 b2) (new 9 8 7) (pack 10 9 K[i] (t i K[i])) (open 11 3) (get 12 11 0) (get 13 11 1) (mov 0 13) (mov 1 6) (mov 2 10) (jump 12)",
			"b2 (t i K[i]) i: (get 2 0 0) (get 3 0 1) (add 4 2 1) (open 5 3) (get 6 5 0) (get 7 5 1) (mov 0 7) (mov 1 4) (jump 6)",
		},
	}
}

// restsOfIfs are those of if, alone, in both ways of an if, and beside those of calls.
func restsOfIfs() []handmade {
	return []handmade{
		// (fun x0 x1 i i (let x2 (call x0 x1) (let x3 (if x2 x1 1) (- x3 x2))))
		{"(fun f x i i (let a (call f x) (let b (if a x 1) (- b a))))", "(> i i)",
			"(new 4) (lab 5 b0) (new 6 5 4) (pack 7 6 X[(> i i)] (t)) (open 8 3) (get 9 8 0) (get 10 8 1) (mov 0 10) (mov 1 7) (jump 9)",
			"b0 (t) i K[i]: (lab 3 b0) (new 4 3 0) (pack 5 4 X[(> i i)] (t)) (new 6 1 2) (lab 7 b1) (new 8 7 6) (pack 9 8 K[i] (t i K[i])) (open 10 5) (get 11 10 0) (get 12 10 1) (mov 0 12) (mov 1 1) (mov 2 9) (jump 11)",
			"b1 (t i K[i]) i: (get 2 0 0) (get 3 0 1) (new 4 1 3) (lab 5 b2) (new 6 5 4) (pack 7 6 K[i] (t i K[i])) (zero 1 b3) (const 8 1) (open 9 7) (get 10 9 0) (get 11 9 1) (mov 0 11) (mov 1 8) (jump 10)",
			"b2 (t i K[i]) i: (get 2 0 0) (get 3 0 1) (sub 4 1 2) (open 5 3) (get 6 5 0) (get 7 5 1) (mov 0 7) (mov 1 4) (jump 6)",
			"b3 (t i K[i]) i i K[i] (t i K[i]) (c (t i K[i]) i) (t (c (t i K[i]) i) (t i K[i])) K[i]: (open 8 7) (get 9 8 0) (get 10 8 1) (mov 0 10) (mov 1 2) (jump 9)",
		},
		// (fun x0 x1 i i (if x1 (let x2 (call x0 1) x2) (let x3 (if x1 2 3) x1)))
		{"(fun f x i i (if x (let a (call f 1) a) (let b (if x 2 3) x)))", "(> i i)",
			"(new 4) (lab 5 b0) (new 6 5 4) (pack 7 6 X[(> i i)] (t)) (open 8 3) (get 9 8 0) (get 10 8 1) (mov 0 10) (mov 1 7) (jump 9)",
			"b0 (t) i K[i]: (lab 3 b0) (new 4 3 0) (pack 5 4 X[(> i i)] (t)) (zero 1 b1) (new 6 1 2) (lab 7 b2) (new 8 7 6) (pack 9 8 K[i] (t i K[i])) (zero 1 b3) (const 10 3) (open 11 9) (get 12 11 0) (get 13 11 1) (mov 0 13) (mov 1 10) (jump 12)",
			"b1 (t) i K[i] (c (t) i K[i]) (t (c (t) i K[i]) (t)) X[(> i i)]: (const 6 1) (new 7 2) (lab 8 b4) (new 9 8 7) (pack 10 9 K[i] (t K[i])) (open 11 5) (get 12 11 0) (get 13 11 1) (mov 0 13) (mov 1 6) (mov 2 10) (jump 12)",
			"b2 (t i K[i]) i: (get 2 0 0) (get 3 0 1) (open 4 3) (get 5 4 0) (get 6 4 1) (mov 0 6) (mov 1 2) (jump 5)",
			"b3 (t) i K[i] (c (t) i K[i]) (t (c (t) i K[i]) (t)) X[(> i i)] (t i K[i]) (c (t i K[i]) i) (t (c (t i K[i]) i) (t i K[i])) K[i]: (const 10 2) (open 11 9) (get 12 11 0) (get 13 11 1) (mov 0 13) (mov 1 10) (jump 12)",
			"b4 (t K[i]) i: (get 2 0 0) (open 3 2) (get 4 3 0) (get 5 3 1) (mov 0 5) (mov 1 1) (jump 4)",
		},
		// (let x0 1 (let x1 2 (let x2 (if 0 x0 x1) (let x3 (if x2 x1 x0) (let y0 (pair x1 x3) (let y1 (pair x0 y0) (pair x2 y1)))))))
		{"(let a 1 (let b 2 (let c (if 0 a b) (let d (if c b a) (pair c (pair a (pair b d)))))))", "(* i (* i (* i i)))",
			"(const 4 1) (const 5 2) (const 6 0) (new 7 5 4 3) (lab 8 b0) (new 9 8 7) (pack 10 9 K[i] (t i i K[(* i (* i (* i i)))])) (zero 6 b1) (open 11 10) (get 12 11 0) (get 13 11 1) (mov 0 13) (mov 1 5) (jump 12)",
			"b0 (t i i K[(* i (* i (* i i)))]) i: (get 2 0 0) (get 3 0 1) (get 4 0 2) (new 5 2 3 1 4) (lab 6 b2) (new 7 6 5) (pack 8 7 K[i] (t i i i K[(* i (* i (* i i)))])) (zero 1 b3) (open 9 8) (get 10 9 0) (get 11 9 1) (mov 0 11) (mov 1 3) (jump 10)",
			"b1 (t) (c (t) (t i (t i (t i i)))) (t (c (t) (t i (t i (t i i)))) (t)) K[(* i (* i (* i i)))] i i i (t i i K[(* i (* i (* i i)))]) (c (t i i K[(* i (* i (* i i)))]) i) (t (c (t i i K[(* i (* i (* i i)))]) i) (t i i K[(* i (* i (* i i)))])) K[i]: (open 11 10) (get 12 11 0) (get 13 11 1) (mov 0 13) (mov 1 4) (jump 12)",
			"b2 (t i i i K[(* i (* i (* i i)))]) i: (get 2 0 0) (get 3 0 1) (get 4 0 2) (get 5 0 3) (new 6 2 1) (new 7 3 6) (new 8 4 7) (open 9 5) (get 10 9 0) (get 11 9 1) (mov 0 11) (mov 1 8) (jump 10)",
			"b3 (t i i K[(* i (* i (* i i)))]) i i i K[(* i (* i (* i i)))] (t i i i K[(* i (* i (* i i)))]) (c (t i i i K[(* i (* i (* i i)))]) i) (t (c (t i i i K[(* i (* i (* i i)))]) i) (t i i i K[(* i (* i (* i i)))])) K[i]: (open 9 8) (get 10 9 0) (get 11 9 1) (mov 0 11) (mov 1 2) (jump 10)",
		},
		// (let x0 1 (let x1 (if x0 (let x2 (if 2 3 4) (+ x2 x0)) 5) (let x3 (fun x4 x5 i i (- x5 x1)) (call x3 x0))))
		{"(let a 1 (let b (if a (let c (if 2 3 4) (+ c a)) 5) (let d (fun f x i i (- x b)) (call d a))))", "i",
			"(const 4 1) (new 5 4 3) (lab 6 b0) (new 7 6 5) (pack 8 7 K[i] (t i K[i])) (zero 4 b1) (const 9 5) (open 10 8) (get 11 10 0) (get 12 10 1) (mov 0 12) (mov 1 9) (jump 11)",
			"b0 (t i K[i]) i: (get 2 0 0) (get 3 0 1) (new 4 1) (lab 5 b2) (new 6 5 4) (pack 7 6 X[(> i i)] (t i)) (open 8 7) (get 9 8 0) (get 10 8 1) (mov 0 10) (mov 1 2) (mov 2 3) (jump 9)",
			"b1 (t) (c (t) i) (t (c (t) i) (t)) K[i] i (t i K[i]) (c (t i K[i]) i) (t (c (t i K[i]) i) (t i K[i])) K[i]: (const 9 2) (new 10 4 8) (lab 11 b3) (new 12 11 10) (pack 13 12 K[i] (t i K[i])) (zero 9 b4) (const 14 4) (open 15 13) (get 16 15 0) (get 17 15 1) (mov 0 17) (mov 1 14) (jump 16)",
			"b2 (t i) i K[i]: (get 3 0 0) (sub 4 1 3) (open 5 2) (get 6 5 0) (get 7 5 1) (mov 0 7) (mov 1 4) (jump 6)",
			"b3 (t i K[i]) i: (get 2 0 0) (get 3 0 1) (add 4 1 2) (open 5 3) (get 6 5 0) (get 7 5 1) (mov 0 7) (mov 1 4) (jump 6)",
			"b4 (t) (c (t) i) (t (c (t) i) (t)) K[i] i (t i K[i]) (c (t i K[i]) i) (t (c (t i K[i]) i) (t i K[i])) K[i] i (t i K[i]) (c (t i K[i]) i) (t (c (t i K[i]) i) (t i K[i])) K[i]: (const 14 3) (open 15 13) (get 16 15 0) (get 17 15 1) (mov 0 17) (mov 1 14) (jump 16)",
		},
		// (fun x0 x1 (* i i) (* i i) (let y0 (fst x1) (let x2 (if y0 x1 (pair 1 2)) (let x3 (call x0 x2) (let y1 (snd x3) (if y1 x2 x3))))))
		{"(fun f x (* i i) (* i i) (let a (if (fst x) x (pair 1 2)) (let b (call f a) (if (snd b) a b))))", "(> (* i i) (* i i))",
			"(new 4) (lab 5 b0) (new 6 5 4) (pack 7 6 X[(> (* i i) (* i i))] (t)) (open 8 3) (get 9 8 0) (get 10 8 1) (mov 0 10) (mov 1 7) (jump 9)",
			"b0 (t) (t i i) K[(* i i)]: (lab 3 b0) (new 4 3 0) (pack 5 4 X[(> (* i i) (* i i))] (t)) (get 6 1 0) (new 7 5 2) (lab 8 b1) (new 9 8 7) (pack 10 9 K[(* i i)] (t X[(> (* i i) (* i i))] K[(* i i)])) (zero 6 b2) (const 11 1) (const 12 2) (new 13 11 12) (open 14 10) (get 15 14 0) (get 16 14 1) (mov 0 16) (mov 1 13) (jump 15)",
			"b1 (t X[(> (* i i) (* i i))] K[(* i i)]) (t i i): (get 2 0 0) (get 3 0 1) (new 4 1 3) (lab 5 b3) (new 6 5 4) (pack 7 6 K[(* i i)] (t (t i i) K[(* i i)])) (open 8 2) (get 9 8 0) (get 10 8 1) (mov 0 10) (mov 1 1) (mov 2 7) (jump 9)",
			"b2 (t) (t i i) K[(* i i)] (c (t) (t i i) K[(* i i)]) (t (c (t) (t i i) K[(* i i)]) (t)) X[(> (* i i) (* i i))] i (t X[(> (* i i) (* i i))] K[(* i i)]) (c (t X[(> (* i i) (* i i))] K[(* i i)]) (t i i)) (t (c (t X[(> (* i i) (* i i))] K[(* i i)]) (t i i)) (t X[(> (* i i) (* i i))] K[(* i i)])) K[(* i i)]: (open 11 10) (get 12 11 0) (get 13 11 1) (mov 0 13) (mov 1 1) (jump 12)",
			"b3 (t (t i i) K[(* i i)]) (t i i): (get 2 0 0) (get 3 0 1) (get 4 1 1) (zero 4 b4) (open 5 3) (get 6 5 0) (get 7 5 1) (mov 0 7) (mov 1 1) (jump 6)",
			"b4 (t (t i i) K[(* i i)]) (t i i) (t i i) K[(* i i)] i: (open 5 3) (get 6 5 0) (get 7 5 1) (mov 0 7) (mov 1 2) (jump 6)",
		},
	}
}

// handmades are all programs that were made by hand.
func handmades() []handmade {
	return slices.Concat(headsAtTheEnd(), headsInALet(), headsInARest(), selfCalls(), captures(), labelOrders(), restLabels(), registerOrders(), cutOffRests(), restsOfIfs())
}

func TestCompileFunctions(t *testing.T) {
	checkHandmade(t, selfCalls())
	checkHandmade(t, captures())
}

func TestCompileOrderOfLabels(t *testing.T) {
	checkHandmade(t, labelOrders())
	checkHandmade(t, restLabels())
}

func TestCompileOrderOfRegisters(t *testing.T) {
	checkHandmade(t, registerOrders())
}

func TestCompileCutOffRests(t *testing.T) {
	checkHandmade(t, cutOffRests())
	checkHandmade(t, restsOfIfs())
}
