package tests

import (
	"math/rand"
	"regexp"
	"slices"
	"strconv"
	"strings"
	"sync"
	"testing"

	"loop.example/typedassembly/impl"
)

var (
	unknownOnly = regexp.MustCompile(`^a(0|[1-9][0-9]*)$`)
	typeAtom    = regexp.MustCompile(`(^|[( ])[a-z0-9+*>-]+`)
	targetList  = regexp.MustCompile(`\([tc]( [TV])*\)`)
	packageList = regexp.MustCompile(`\(e [TV]\)`)
)

// markOfTarget tells what a text is by making types marks from the inside outwards: "T" for a type, "V" for one that is a type but for v, which
// stands in it outside of all its packages, and others for what is neither. Unknown types count if they are told to.
func markOfTarget(text string, unknown bool) string {
	if !isForm(text) {
		return ""
	}
	text = typeAtom.ReplaceAllStringFunc(text, func(atom string) string {
		if atom[0] == '(' {
			return atom
		}
		ahead := atom[:len(atom)-len(strings.TrimPrefix(atom, " "))]
		switch name := atom[len(ahead):]; {
		case name == "i", unknown && unknownOnly.MatchString(name):
			return ahead + "T"
		case name == "v":
			return ahead + "V"
		}
		return atom
	})
	for strings.Contains(text, "(") {
		before := text
		text = targetList.ReplaceAllStringFunc(text, func(list string) string {
			if strings.Contains(list, "V") {
				return "V"
			}
			return "T"
		})
		text = packageList.ReplaceAllString(text, "T")
		if text == before {
			break
		}
	}
	return text
}

func isTarget(text string) bool {
	return markOfTarget(text, false) == "T"
}

func isOpen(text string) bool {
	return markOfTarget(text, true) == "T"
}

// isOpenWithV tells whether a text is an open type in which v can stand.
func isOpenWithV(text string) bool {
	mark := markOfTarget(text, true)
	return mark == "T" || mark == "V"
}

// withHidden is an open type with a text for each v outside of its packages: it goes over these as they are.
func withHidden(text string, by string) string {
	var out strings.Builder
	for at := 0; at < len(text); {
		end := at + 1
		switch {
		case strings.HasPrefix(text[at:], "(e "):
			end = at + len(spanOf(text, at))
			out.WriteString(text[at:end])
		case atomPattern.MatchString(text[at:end]):
			atom := spanOf(text, at)
			end = at + len(atom)
			if atom == "v" {
				atom = by
			}
			out.WriteString(atom)
		default:
			out.WriteString(text[at:end])
		}
		at = end
	}
	return out.String()
}

// targetOf is the target type of a type.
func targetOf(kind string) string {
	if kind == "i" {
		return "i"
	}
	sides := toldTypes(kind, len("(> "))
	if kind[1] == '*' {
		return "(t " + targetOf(sides[0]) + " " + targetOf(sides[1]) + ")"
	}
	return "(e (t (c v " + targetOf(sides[0]) + " " + nextOf(sides[1]) + ") v))"
}

func nextOf(kind string) string {
	return "(e (t (c v " + targetOf(kind) + ") v))"
}

// inTuples is a text in as many tuples as a number tells.
func inTuples(n int, text string) string {
	return strings.Repeat("(t ", n) + text + strings.Repeat(")", n)
}

// longTarget is a tuple of numbers of just as many bytes, an odd number: those of all target types are odd.
func longTarget(bytes int) string {
	return "(t" + strings.Repeat(" i", (bytes-len("(t)"))/2) + ")"
}

func fixedTargets() []string {
	return []string{
		"i", "(t)", "(c)", "(t i)", "(c i)", "(t i i)", "(c i i i)", "(t (t))", "(t (c))", "(c (t))", "(c (c) (t) i)", "(t (t i) (t i (c i)))",
		"(e i)", "(e v)", "(e (t))", "(e (c))", "(e (t v))", "(e (t v i v))", "(e (c v (c v)))", "(t (e v) i (e v))", "(c (e v))", "(e (t (c v i) v))",
		"(e (e i))", "(e (e v))", "(e (t v (e v)))", "(e (t v (e (t v (e (t v (e v)))))))", "(e (t (e i) v))", "(e (e (e (e v))))", "(e (e (t (e v) v)))",
		"(e (t (c v i (e (t (c v i) v))) v))", "(e (t (e (c (e v) v)) (e (t v (e i))) v))", "(t (e (t v v)) (t i (e (e (t i v)))))",
		inTuples(impl.DepthMax, "i"), inTuples(impl.DepthMax-1, "(c)"), inTuples(impl.DepthMax-1, "(e v)"), strings.Repeat("(e ", impl.DepthMax) + "v" + strings.Repeat(")", impl.DepthMax),
		longTarget(impl.FormMax - 1), "(e (t" + strings.Repeat(" v", 5996) + "))", "(t " + longTarget(impl.FormMax-5) + ")",
	}
}

// noTargets are texts that are no target types, nor open types even with v.
func noTargets() []string {
	return append([]string{
		"t", "c", "e", "a", "b", "x", "ii", "vv", "iv", "0", "-1", "+", "a01", "a00", "a1a", "a-1", "a+1", "aa0", "b0", "v0", "i0", "t0", "e1", "0a", "1", "va",
		"(i)", "(v)", "(a0)", "(e)", "(e i i)", "(e v v)", "(e (t) (t))", "(t t)", "(t c)", "(t e)", "(c t i)", "(e e)", "(e t)", "(t (e) i)", "(t (e i i))", "(e (e v v))", "(e (t v) v)",
		"(x i)", "(* i i)", "(> i i)", "(t (> i i))", "(tt i)", "(te i)", "(i t)", "(i i)", "(v t)", "((t))", "((t) i)", "((t i))", "((e v))", "((c) i)", "(t ((t)))", "(e ((t) v))",
		"(t a)", "(t a01)", "(t i 0)", "(c -1)", "(t b)", "(e a)", "(e (t v x))", "(e (t v i0))", "(t i (i))", "(e (i))", "(e (v))", "(t (t (t (a))))",
		inTuples(impl.DepthMax+1, "i"), inTuples(impl.DepthMax, "(t)"), inTuples(impl.DepthMax, "(e v)"), longTarget(impl.FormMax + 1), inTuples(4000, "i"),
	}, fixedFaults()...)
}

// openOnly are open types that are no target types, with no v outside of their packages.
func openOnly() []string {
	return []string{
		"a0", "a1", "a9", "a10", "a12", "a79", "a80", "a100", "a999999999999999999999999", "(t a0)", "(c a0 i)", "(t i (t i a3))", "(e a0)", "(e (t v a0))", "(e (e (t a1 v)))",
		"(t a0 a1 a0)", "(c (e (t v a2)) a2)", inTuples(impl.DepthMax, "a7"), "(t a0 " + longTarget(impl.FormMax-7) + ")", "a" + strings.Repeat("1", impl.FormMax-1),
	}
}

// openWithV are open types but for v, which stands in them outside of all their packages.
func openWithV() []string {
	return []string{
		"v", "(t v)", "(c v)", "(t i v)", "(t v v)", "(t v (e v))", "(t (e v) v)", "(c v i (e (t (c v i) v)))", "(t (t (c (t v))))", "(t (e (t v (e v))) (c v (e v)) v)",
		"(t a0 v)", "(c v (e (t a1 v)))", "(t v v v v v v (e v))", inTuples(impl.DepthMax, "v"), inTuples(30, "v"), "(t v " + longTarget(impl.FormMax-6) + ")", "(t" + strings.Repeat(" v", 5998) + ")",
	}
}

// randomOpen is an open type of at most some depth with some atoms, in whose packages v stands too.
func randomOpen(r *rand.Rand, depth int, atoms ...string) string {
	if depth == 0 || r.Intn(4) == 0 {
		return atoms[r.Intn(len(atoms))]
	}
	if r.Intn(3) == 0 {
		return "(e " + randomOpen(r, depth-1, append(slices.Clone(atoms), "v", "v")...) + ")"
	}
	text := []string{"(t", "(c"}[r.Intn(2)]
	for range r.Intn(4) {
		text += " " + randomOpen(r, depth-1, atoms...)
	}
	return text + ")"
}

// sampleTargetTexts are target types, open ones with and without v, and other texts.
func sampleTargetTexts() []string {
	return slices.Clone(onceTargetTexts())
}

var onceTargetTexts = sync.OnceValue(func() []string {
	texts := slices.Concat(fixedTargets(), noTargets(), openOnly(), openWithV(), fixedForms())
	r := rand.New(rand.NewSource(21))
	for range 1200 {
		for _, atoms := range [][]string{{"i"}, {"i", "a0", "a12"}, {"i", "v"}, {"i", "v", "a1"}, {"i", "v", "a", "a01", "x"}} {
			text := randomOpen(r, 1+r.Intn(5), atoms...)
			texts = append(texts, text, spoiled(r, text), swappedAtoms(r, text), swappedParts(r, text))
		}
	}
	for kind := range smallTypes() {
		texts = append(texts, targetOf(kind), nextOf(kind))
	}
	slices.Sort(texts)
	return slices.Compact(texts)
})

// withOperands is a pattern with those of a register, a numeral, an index and a label for R, N, X and L.
func withOperands(pattern string) *regexp.Regexp {
	operands := strings.NewReplacer("R", `([0-9]|[1-3][0-9])`, "N", `(0|-?[1-9][0-9]{0,2})`, "X", `(0|[1-9][0-9]{0,2})`, "L", `([a-z][a-z0-9]*)`)
	return regexp.MustCompile("^" + operands.Replace(pattern) + "$")
}

var (
	labelOnly  = withOperands(`L`)
	plainInstr = withOperands(`(\(const R N\)|\((mov|open) R R\)|\((add|sub|mul) R R R\)|\(new R( R)*\)|\(get R R X\)|\(lab R L\)|\(zero R L\)|\((jump|halt) R\))`)
	packInstr  = withOperands(`\(pack R R .*\)`)
)

// isInstr tells whether a text is an instruction, by patterns of what all of them are.
func isInstr(text string) bool {
	if !isForm(text) || text[0] != '(' {
		return false
	}
	if packInstr.MatchString(text) {
		items := itemsOf(text)
		return len(items) == 5 && strings.HasPrefix(items[3], "(e ") && isTarget(items[3]) && isTarget(items[4])
	}
	return plainInstr.MatchString(text)
}

// ends tells whether an instruction is a last one.
func ends(text string) bool {
	return strings.HasPrefix(text, "(jump ") || strings.HasPrefix(text, "(halt ")
}

func isLabel(text string) bool {
	return labelOnly.MatchString(text) && len(text) <= impl.FormMax
}

func isBlock(b impl.Block) bool {
	if !isLabel(b.Label) || len(b.Regs) > impl.RegsMax || len(b.Code) == 0 || len(b.Code) > impl.CodeMax {
		return false
	}
	notTarget := func(text string) bool { return !isTarget(text) }
	notInstr := func(text string) bool { return !isInstr(text) }
	return !slices.ContainsFunc(b.Regs, notTarget) && !slices.ContainsFunc(b.Code, notInstr) && slices.IndexFunc(b.Code, ends) == len(b.Code)-1
}

func isProgram(program []impl.Block) bool {
	labels := map[string]bool{}
	for _, b := range program {
		if !isBlock(b) {
			return false
		}
		labels[b.Label] = true
	}
	return len(program) > 0 && len(program) <= impl.BlocksMax && len(labels) == len(program) && program[0].Label == "main" && len(program[0].Regs) == 0
}

// regTypes are the types of the registers that have one, by what stands for the registers in instructions.
type regTypes map[string]string

// checkOracle checks the code of a block, keeping types as texts.
type checkOracle struct {
	program []impl.Block
	regs    regTypes
	opens   int
}

func newCheckOracle(program []impl.Block, k int) *checkOracle {
	o := &checkOracle{program: program, regs: regTypes{}}
	for r, kind := range program[k].Regs {
		o.regs[strconv.Itoa(r)] = kind
	}
	return o
}

// regsOf are the Regs of the block with a label, if there is one.
func (o *checkOracle) regsOf(label string) ([]string, bool) {
	for _, b := range o.program {
		if b.Label == label {
			return b.Regs, true
		}
	}
	return nil, false
}

func (o *checkOracle) have(kinds []string) bool {
	for r, kind := range kinds {
		if o.regs[strconv.Itoa(r)] != kind {
			return false
		}
	}
	return true
}

// fits tells whether a type has a head, or that there is none if this is "".
func fits(kind string, head string) bool {
	return kind != "" && (kind == head || strings.HasPrefix(kind, "("+head+" ") || kind == "("+head+")")
}

// gives is the type that an instruction gives that has what it needs, or ""; and whether it has. It may be no form.
func (o *checkOracle) gives(items []string) (string, bool) {
	s := ""
	if len(items) > 2 {
		s = o.regs[items[2]]
	}
	switch items[0] {
	case "const":
		return "i", true
	case "mov":
		return s, s != ""
	case "add", "sub", "mul":
		return "i", s == "i" && o.regs[items[3]] == "i"
	case "new":
		list := "(t"
		for _, r := range items[2:] {
			if o.regs[r] == "" {
				return "", false
			}
			list += " " + o.regs[r]
		}
		return list + ")", true
	case "get":
		n, _ := strconv.Atoi(items[3])
		if !fits(s, "t") || n+1 >= len(itemsOf(s)) {
			return "", false
		}
		return itemsOf(s)[n+1], true
	case "lab":
		kinds, ok := o.regsOf(items[2])
		return strings.TrimSuffix("(c "+strings.Join(kinds, " "), " ") + ")", ok
	case "pack":
		return items[3], s == withHidden(itemsOf(items[3])[1], items[4])
	case "open":
		if !fits(s, "e") {
			return "", false
		}
		return withHidden(itemsOf(s)[1], "a"+strconv.Itoa(o.opens)), true
	case "zero":
		kinds, ok := o.regsOf(items[2])
		return "", ok && o.regs[items[1]] == "i" && o.have(kinds)
	case "jump":
		kind := o.regs[items[1]]
		return "", fits(kind, "c") && o.have(itemsOf(kind)[1:])
	}
	return "", o.regs[items[1]] != ""
}

// step does an instruction that has what it needs, and tells whether it has.
func (o *checkOracle) step(text string) bool {
	items := itemsOf(text)
	kind, ok := o.gives(items)
	if !ok || kind != "" && !isForm(kind) {
		return false
	}
	if kind != "" {
		o.regs[items[1]] = kind
	}
	if items[0] == "open" {
		o.opens++
	}
	return true
}

// checkedOf tells the types of the registers at first and behind each instruction, as long as they have what they need.
func checkedOf(program []impl.Block, k int) []regTypes {
	o := newCheckOracle(program, k)
	all := []regTypes{o.copied()}
	for _, text := range program[k].Code {
		if !o.step(text) {
			break
		}
		all = append(all, o.copied())
	}
	return all
}

func (o *checkOracle) copied() regTypes {
	kinds := regTypes{}
	for r, kind := range o.regs {
		kinds[r] = kind
	}
	return kinds
}

// coder makes the code of a block, instruction by instruction, each of which most often has what it needs.
type coder struct {
	*checkOracle
	r    *rand.Rand
	code []string
}

func (c *coder) reg() string {
	if c.r.Intn(40) == 0 {
		return "39"
	}
	return strconv.Itoa(c.r.Intn(7))
}

// regWith is a register whose type is taken, or any one if there is none.
func (c *coder) regWith(taken func(string) bool) string {
	first := c.r.Intn(40)
	for k := range impl.RegsMax {
		r := strconv.Itoa((first + k) % impl.RegsMax)
		if kind := c.regs[r]; kind != "" && taken(kind) {
			return r
		}
	}
	return c.reg()
}

func (c *coder) regOf(head string) string {
	return c.regWith(func(kind string) bool { return fits(kind, head) })
}

func (c *coder) some() string {
	return c.regWith(func(string) bool { return true })
}

// label is one of a block whose Regs are there, if it is to be and there is one.
func (c *coder) label(there bool) string {
	first := c.r.Intn(len(c.program))
	for k := range c.program {
		b := c.program[(first+k)%len(c.program)]
		if !there || c.have(b.Regs) {
			return b.Label
		}
	}
	return "none"
}

// pack packs what a register has, as a package that hides a part of its type.
func (c *coder) pack() string {
	s := c.regWith(isTarget)
	kind := c.regs[s]
	if !isTarget(kind) {
		return "(pack " + c.reg() + " " + s + " (e v) i)"
	}
	inside, hides := kind, []string{"i", "(t)", "(e v)"}[c.r.Intn(3)]
	for range 3 {
		part := spanOf(kind, randomStart(c.r, kind))
		if !isTarget(part) {
			continue
		}
		for _, all := range []int{1, -1} {
			if with := strings.Replace(kind, part, "v", all); isOpenWithV(with) && withHidden(with, part) == kind {
				inside, hides = with, part
			}
		}
	}
	return "(pack " + c.reg() + " " + s + " (e " + inside + ") " + hides + ")"
}

func (c *coder) instr() string {
	switch c.r.Intn(12) {
	case 0:
		return "(const " + c.reg() + " " + strconv.Itoa(c.r.Intn(1999)-999) + ")"
	case 1:
		return "(mov " + c.reg() + " " + c.some() + ")"
	case 2:
		return "(" + []string{"add", "sub", "mul"}[c.r.Intn(3)] + " " + c.reg() + " " + c.regOf("i") + " " + c.regOf("i") + ")"
	case 3, 4:
		text := "(new " + c.reg()
		for range c.r.Intn(4) {
			text += " " + c.some()
		}
		return text + ")"
	case 5, 6:
		return "(get " + c.reg() + " " + c.regOf("t") + " " + strconv.Itoa(c.r.Intn(2)) + ")"
	case 7:
		return "(lab " + c.reg() + " " + c.label(false) + ")"
	case 8, 9:
		return c.pack()
	case 10:
		return "(open " + c.reg() + " " + c.regOf("e") + ")"
	}
	return "(zero " + c.regOf("i") + " " + c.label(true) + ")"
}

// last is a last instruction: jump to code whose types are there, if there is one, and otherwise most often halt.
func (c *coder) last() string {
	ready := func(kind string) bool { return fits(kind, "c") && c.have(itemsOf(kind)[1:]) }
	if r := c.regWith(ready); ready(c.regs[r]) || c.r.Intn(4) == 0 {
		return "(jump " + r + ")"
	}
	return "(halt " + c.some() + ")"
}

// randomCode is code for a block of a program, with as many instructions as a number tells, most of which have what they need.
func randomCode(r *rand.Rand, program []impl.Block, k int, n int) []string {
	c := &coder{newCheckOracle(program, k), r, nil}
	for len(c.code) < n-1 {
		text := c.instr()
		if c.step(text) || r.Intn(60) == 0 {
			c.code = append(c.code, text)
		}
	}
	return append(c.code, c.last())
}

// randomProgram is a program whose blocks have a few registers.
func randomProgram(r *rand.Rand) []impl.Block {
	program := []impl.Block{{Label: "main"}}
	for k := range r.Intn(5) {
		b := impl.Block{Label: []string{"b", "v", "x", "halt", "i", "a0"}[r.Intn(6)] + strconv.Itoa(k)}
		for range r.Intn(4) {
			b.Regs = append(b.Regs, randomOpen(r, r.Intn(3), "i"))
		}
		program = append(program, b)
	}
	for k := range program {
		program[k].Code = randomCode(r, program, k, 1+r.Intn(25))
	}
	return program
}

// changedProgram is a program with one of its instructions, labels or types spoiled or in the place of another one.
func changedProgram(r *rand.Rand, program []impl.Block) []impl.Block {
	changed := cloned(program)
	from, to := program[r.Intn(len(program))], &changed[r.Intn(len(changed))]
	at := r.Intn(len(to.Code))
	switch r.Intn(6) {
	case 0:
		to.Code[at] = swappedAtoms(r, to.Code[at])
	case 1:
		to.Code[at] = from.Code[r.Intn(len(from.Code))]
	case 2:
		to.Code = slices.Delete(to.Code, at, min(at+1, len(to.Code)-1))
	case 3:
		to.Code = slices.Insert(to.Code, at, from.Code[r.Intn(len(from.Code))])
	case 4:
		to.Label = []string{from.Label, "main", "b0", "", "B", "other"}[r.Intn(6)]
	case 5:
		to.Regs = append(to.Regs, []string{"i", "(t i)", "(e v)", "v", "a0", ""}[r.Intn(6)])
	}
	return changed
}

// cloned is a program that shares no lists with another one.
func cloned(program []impl.Block) []impl.Block {
	program = slices.Clone(program)
	for k := range program {
		program[k].Regs, program[k].Code = slices.Clone(program[k].Regs), slices.Clone(program[k].Code)
	}
	return program
}

// sampleLists are programs and lists of blocks that are nearly programs.
func sampleLists() [][]impl.Block {
	return slices.Clone(onceLists())
}

var onceLists = sync.OnceValue(func() [][]impl.Block {
	var lists [][]impl.Block
	r := rand.New(rand.NewSource(22))
	for range 350 {
		program := randomProgram(r)
		lists = append(lists, program, changedProgram(r, program), changedProgram(r, changedProgram(r, program)))
	}
	return lists
})

// samplePrograms are those of the sample lists that the oracle takes for programs.
func samplePrograms() [][]impl.Block {
	return slices.Clone(oncePrograms())
}

var oncePrograms = sync.OnceValue(func() [][]impl.Block {
	return slices.DeleteFunc(sampleLists(), func(list []impl.Block) bool { return !isProgram(list) })
})

func TestOracleKnowsTargets(t *testing.T) {
	for _, text := range fixedTargets() {
		if !isTarget(text) || !isOpen(text) || !isOpenWithV(text) {
			t.Errorf("the oracle does not take %q for a target type", cut(text))
		}
	}
	for _, text := range openOnly() {
		if isTarget(text) || !isOpen(text) || !isOpenWithV(text) {
			t.Errorf("the oracle does not take %q for an open type alone", cut(text))
		}
	}
	for _, text := range openWithV() {
		if isTarget(text) || isOpen(text) || !isOpenWithV(text) {
			t.Errorf("the oracle does not take %q for an open type with v", cut(text))
		}
	}
	for _, text := range noTargets() {
		if isTarget(text) || isOpen(text) || isOpenWithV(text) {
			t.Errorf("the oracle takes %q for a type", cut(text))
		}
	}
	if put := withHidden("(t v (e v) (c v (e (t v (e v)) i) i v) vv)", "(t v)"); put != "(t (t v) (e v) (c (t v) (e (t v (e v)) i) i (t v)) vv)" {
		t.Errorf("the oracle puts a type as %q", put)
	}
	if of := targetOf("(* i (> (> i i) i))"); of != "(t i (e (t (c v (e (t (c v i (e (t (c v i) v))) v)) (e (t (c v i) v))) v)))" {
		t.Errorf("the oracle tells the target type %q", of)
	}
}

func TestOracleChecksBlocks(t *testing.T) {
	code := []string{"(const 0 5)", "(new 1 0)", "(pack 1 1 (e (t v)) i)", "(lab 2 b)", "(open 3 1)", "(open 1 1)", "(get 1 1 0)", "(zero 0 b)", "(new 0)", "(jump 2)"}
	program := []impl.Block{{Label: "main", Code: code}, {Label: "b", Regs: []string{"i"}, Code: []string{"(halt 0)"}}}
	if !isProgram(program) {
		t.Fatalf("the oracle does not take %q for a program", program)
	}
	all := checkedOf(program, 0)
	want := regTypes{"0": "(t)", "1": "a1", "2": "(c i)", "3": "(t a0)"}
	last := all[len(all)-1]
	if len(all) != len(code) || len(last) != len(want) {
		t.Fatalf("the oracle checks %d instructions, to %q", len(all)-1, last)
	}
	for r, kind := range want {
		if last[r] != kind {
			t.Errorf("the oracle gives register %s the type %q", r, last[r])
		}
	}
	checks, faults := 0, 0
	heads := map[string]int{}
	for _, program := range samplePrograms() {
		for k, b := range program {
			passed := len(checkedOf(program, k)) - 1
			if passed == len(b.Code) {
				checks++
			} else {
				faults++
			}
			for _, text := range b.Code[:passed] {
				heads[itemsOf(text)[0]]++
			}
		}
	}
	if checks < 1000 || faults < 300 || len(heads) != 13 {
		t.Errorf("of the sample blocks %d check, and %d do not, with %v", checks, faults, heads)
	}
	for head, n := range heads {
		if n < 50 {
			t.Errorf("the sample blocks have %d instructions %q that have what they need", n, head)
		}
	}
}
