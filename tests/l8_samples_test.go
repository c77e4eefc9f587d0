package tests

import (
	"math/rand"
	"slices"
	"strconv"
	"strings"
	"sync"
	"testing"

	"loop.example/typedassembly/impl"
)

// unmade is a block as far as it is made: its index, its code, the names of its scope with their types and the register of each one,
// the register to go on and the type of the result, and the normal expression that is still to be put.
type unmade struct {
	index      int
	regs, code []string
	env
	places     []string
	on, result string
	text       string
}

// nextRegister counts those that are given: those of the Regs, and one for each instruction that takes the next one.
func (u *unmade) nextRegister() string {
	n := len(u.regs)
	for _, text := range u.code {
		if !slices.Contains([]string{"zero", "mov", "jump"}, itemsOf(text)[0]) {
			n++
		}
	}
	return strconv.Itoa(n)
}

// put puts an instruction with # for the next register, and tells this one.
func (u *unmade) put(pattern string, parts ...string) string {
	r := u.nextRegister()
	u.code = append(u.code, "("+strings.Join(append([]string{strings.Replace(pattern, "#", r, 1)}, parts...), " ")+")")
	return r
}

func (u *unmade) bind(name string, kind string, r string) {
	u.env = u.with(name, kind)
	u.places = append(slices.Clone(u.places), r)
}

// place is the register of a bare expression.
func (u *unmade) place(bare string) string {
	if numeralOnly.MatchString(bare) {
		return u.put("const #", bare)
	}
	for i, name := range slices.Backward(u.names) {
		if name == bare {
			return u.places[i]
		}
	}
	return "none"
}

// leave opens a package, and jumps to what is in it with what the registers from 1 on are to have.
func (u *unmade) leave(pack string, values ...string) {
	open := u.put("open #", pack)
	code := u.put("get #", open, "0")
	u.code = append(u.code, "(mov 0 "+u.put("get #", open, "1")+")")
	for i, value := range values {
		u.code = append(u.code, "(mov "+strconv.Itoa(i+1)+" "+value+")")
	}
	u.code = append(u.code, "(jump "+code+")")
}

// pack puts what a package is made of behind the tuple that it hides.
func (u *unmade) pack(tuple string, label string, kind string, hides string) string {
	both := u.put("new #", u.put("lab #", label), tuple)
	return u.put("pack #", both, kind, hides)
}

// compileOracle makes blocks of texts. When a label is given, its block gets all that it begins with, so that just one expression is left to be put.
type compileOracle struct {
	program []impl.Block
	blocks  []unmade
}

// give gives the next label to a block.
func (o *compileOracle) give(u unmade) string {
	n := len(o.blocks)
	label := "b" + strconv.Itoa(n-2)
	if n < 2 {
		label = []string{"main", "end"}[n]
	}
	u.index = n
	o.program = append(o.program, impl.Block{Label: label, Regs: u.regs})
	o.blocks = append(o.blocks, u)
	return label
}

// asList is a list with a head.
func asList(head string, parts []string) string {
	return "(" + strings.Join(append([]string{head}, parts...), " ") + ")"
}

// captured are the registers and the target types of names, and a block that begins with getting them out of the register 0.
func captured(u *unmade, names []string, regs ...string) ([]string, []string, unmade) {
	var from, kinds []string
	inner := unmade{regs: append([]string{""}, regs...)}
	for n, name := range names {
		from = append(from, u.place(name))
		kinds = append(kinds, targetOf(u.look(name)))
		inner.bind(name, u.look(name), inner.put("get #", "0", strconv.Itoa(n)))
	}
	inner.regs[0] = asList("t", kinds)
	return from, kinds, inner
}

// cut puts the package of a rest behind a name of a type.
func (o *compileOracle) cut(u *unmade, name string, kind string, rest string) string {
	names := slices.DeleteFunc(firstAtoms(freeOf(rest)), func(other string) bool { return other == name })
	from, kinds, inner := captured(u, names, targetOf(kind))
	inner.on, inner.result, inner.text = inner.put("get #", "0", strconv.Itoa(len(names))), u.result, rest
	inner.bind(name, kind, "1")
	inner.regs[0] = asList("t", append(kinds, nextOf(u.result)))
	label := o.give(inner)
	return u.pack(u.put("new #", append(from, u.on)...), label, nextOf(kind), inner.regs[0])
}

// fun puts the package of a function.
func (o *compileOracle) fun(u *unmade, text string) string {
	items := itemsOf(text)
	kind := asList(">", items[3:5])
	from, _, inner := captured(u, firstAtoms(freeOf(text)), targetOf(items[3]), nextOf(items[4]))
	if slices.Contains(freeOf(items[5]), items[1]) {
		inner.bind(items[1], kind, inner.pack("0", "b"+strconv.Itoa(len(o.blocks)-2), targetOf(kind), inner.regs[0]))
	}
	inner.bind(items[2], items[3], "1")
	inner.on, inner.result, inner.text = "2", items[4], items[5]
	label := o.give(inner)
	return u.pack(u.put("new #", from...), label, targetOf(kind), inner.regs[0])
}

// simple is the register of a simple expression but a call and an if.
func (o *compileOracle) simple(u *unmade, text string) string {
	if text[0] != '(' {
		return u.place(text)
	}
	items := itemsOf(text)
	if items[0] == "fun" {
		return o.fun(u, text)
	}
	pattern := map[string]string{"+": "add #", "-": "sub #", "*": "mul #", "pair": "new #", "fst": "get #", "snd": "get #"}[items[0]]
	var parts []string
	for _, item := range items[1:] {
		parts = append(parts, u.place(item))
	}
	switch items[0] {
	case "fst":
		parts = append(parts, "0")
	case "snd":
		parts = append(parts, "1")
	}
	return u.put(pattern, parts...)
}

// typesSoFar are the types that the checker knows of the registers that are given in a block.
func (o *compileOracle) typesSoFar(u *unmade) []string {
	check := newCheckOracle(o.program, u.index)
	for _, text := range u.code {
		check.step(text)
	}
	var kinds []string
	for r := 0; strconv.Itoa(r) != u.nextRegister(); r++ {
		kinds = append(kinds, check.regs[strconv.Itoa(r)])
	}
	return kinds
}

// put puts the expression of a block.
func (o *compileOracle) put(u *unmade) {
	for {
		value, name, rest := u.text, "", ""
		if strings.HasPrefix(value, "(let ") {
			items := itemsOf(value)
			name, value, rest = items[1], items[2], items[3]
		}
		kind, _ := typingOf(u.env, value)
		parts := []string{value}
		if value[0] == '(' {
			parts = itemsOf(value)
		}
		if parts[0] != "call" && parts[0] != "if" {
			r := o.simple(u, value)
			if name == "" {
				u.leave(u.on, r)
				return
			}
			u.bind(name, kind, r)
			u.text = rest
			continue
		}
		places := []string{u.place(parts[1])}
		if parts[0] == "call" {
			places = append(places, u.place(parts[2]))
		}
		if name != "" {
			u.on, u.result = o.cut(u, name, kind, rest), kind
		}
		if parts[0] == "call" {
			u.leave(places[0], places[1], u.on)
			return
		}
		zero := unmade{regs: o.typesSoFar(u), env: u.env, places: u.places, on: u.on, result: u.result, text: parts[2]}
		u.code = append(u.code, "(zero "+places[0]+" "+o.give(zero)+")")
		u.text = parts[3]
	}
}

// blocksOf are the blocks that are made of an expression, whatever their limits, or none if it has no type or no normal form.
func blocksOf(text string) []impl.Block {
	if !isClosed(text) {
		return nil
	}
	kind, _ := typingOf(env{}, text)
	normal := normalOf(text)
	if kind == "" || normal == "" {
		return nil
	}
	o := compileOracle{}
	first := unmade{result: kind, text: normal}
	o.give(first)
	first.on = first.pack(first.put("new #"), "end", nextOf(kind), "(t)")
	o.blocks[0] = first
	o.give(unmade{regs: []string{"(t)", targetOf(kind)}, code: []string{"(halt 1)"}})
	for k := 0; k < len(o.blocks); k++ {
		u := o.blocks[k]
		if u.text != "" {
			o.put(&u)
		}
		o.program[k].Code = u.code
	}
	return o.program
}

// compiledOf is the program of an expression, or nil.
func compiledOf(text string) []impl.Block {
	program := blocksOf(text)
	if !isProgram(program) {
		return nil
	}
	return program
}

// mostRegisters is how many registers the block of a program needs that needs the most.
func mostRegisters(program []impl.Block) int {
	most := 0
	for _, b := range program {
		u := unmade{regs: b.Regs, code: b.Code}
		n, _ := strconv.Atoi(u.nextRegister())
		most = max(most, n)
	}
	return most
}

// mostCode is how many instructions the block of a program has that has the most.
func mostCode(program []impl.Block) int {
	most := 0
	for _, b := range program {
		most = max(most, len(b.Code))
	}
	return most
}

func isTyped(text string) bool {
	if !isClosed(text) {
		return false
	}
	kind, _ := typingOf(env{}, text)
	return kind != ""
}

// callingExpr is a function that calls itself a few times, in some way, with something that is captured, and is called.
func callingExpr(r *rand.Rand, depth int) string {
	outer := env{}.with("a", randomType(r, 1)).with("b", randomType(r, 1))
	kind := randomType(r, 1)
	inner := outer.with("x", "i")
	part := func(e env) string { return typedExpr(r, e, kind, r.Intn(depth+1)) }
	again := "(call f (- x 1))"
	step := []string{
		again,
		"(let b " + again + " " + part(inner.with("b", kind)) + ")",
		"(let i " + again + " (let x0 " + part(inner) + " (if x i x0)))",
		"(let i (if " + typedExpr(r, inner, "i", 1) + " " + again + " " + part(inner) + ") " + part(inner.with("i", kind)) + ")",
		"(let i (fun i x1 i " + kind + " (call f x1)) (call i (- x 1)))",
		"(if " + typedExpr(r, inner, "i", 1) + " " + part(inner) + " " + again + ")",
	}[r.Intn(6)]
	fun := "(fun f x i " + kind + " (if x " + part(inner) + " " + step + "))"
	text := "(call " + fun + " " + strconv.Itoa(r.Intn(5)) + ")"
	if r.Intn(3) == 0 {
		text = "(let f " + fun + " (let i (call f 1) (pair i (pair a f))))"
	}
	return "(let a " + typedExpr(r, env{}, outer.types[0], 1) + " (let b " + typedExpr(r, env{}, outer.types[1], 1) + " " + text + "))"
}

// sampleCompilings are closed expressions with a type, the same in each run.
func sampleCompilings() []string {
	return slices.Clone(onceCompilings())
}

var onceCompilings = sync.OnceValue(func() []string {
	var texts []string
	for _, h := range handmades() {
		texts = append(texts, h[0])
	}
	for k, text := range sampleClosed() {
		if k%9 == 0 {
			texts = append(texts, text)
		}
	}
	r := rand.New(rand.NewSource(41))
	for range 350 {
		texts = append(texts, callingExpr(r, 2), typedExpr(r, env{}, randomType(r, 2), 4+r.Intn(2)))
	}
	return slices.DeleteFunc(texts, func(text string) bool { return !isTyped(text) })
})

func TestOracleKnowsCompiledPrograms(t *testing.T) {
	for _, h := range handmades() {
		if program := compiledOf(h[0]); !sameProgram(program, h.program()) {
			t.Errorf("the oracle makes of %q:\n%s", h[0], listed(program))
		}
	}
	if most := mostRegisters(compiledOf("(+ 1 2)")); most != 10 {
		t.Errorf("the oracle counts %d registers", most)
	}
	for _, text := range []string{"", "a", "(+ 1 a)", "(fst 1)", "(+ 1  2)", sumOf(26, "1")} {
		if program := compiledOf(text); program != nil {
			t.Errorf("the oracle makes of %q:\n%s", text, listed(program))
		}
	}
	counts := map[string]int{}
	for _, text := range sampleCompilings() {
		program := compiledOf(text)
		if program == nil {
			counts["none"]++
		}
		if len(program) > 5 {
			counts["large"]++
		}
		for _, b := range program {
			for _, instr := range b.Code {
				items := itemsOf(instr)
				counts[items[0]]++
				if items[0] == "lab" && items[2] == b.Label {
					counts["self"]++
				}
			}
		}
	}
	for what, least := range map[string]int{"none": 20, "large": 400, "self": 200, "zero": 800, "pack": 2500, "add": 50, "sub": 200, "mul": 40} {
		if counts[what] < least {
			t.Errorf("the samples have just %d of %q", counts[what], what)
		}
	}
}
