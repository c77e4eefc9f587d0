package tests

import (
	"slices"
	"strconv"
	"strings"
	"testing"

	"loop.example/typedassembly/impl"
)

// dialogue is a script with what is told at each line, and how many blocks and instructions there are behind all of them.
type dialogue struct {
	name         string
	lines        [][2]string
	blocks, size int
}

func (d dialogue) script() string {
	script := ""
	for _, line := range d.lines {
		script += line[0] + "\n"
	}
	return script
}

func (d dialogue) told() string {
	told := ""
	for _, line := range d.lines {
		told += line[1] + "\n"
	}
	return told
}

func (d dialogue) output() string {
	return d.told() + lastLine(d.blocks, d.size)
}

func lastLine(blocks int, size int) string {
	return "blocks " + strconv.Itoa(blocks) + " instructions " + strconv.Itoa(size) + "\n"
}

// zeroMain is what main has in the program of 0.
const zeroMain = "(new 0) (lab 1 end) (new 2 1 0) (pack 3 2 (e (t (c v i) v)) (t)) (const 4 0) (open 5 3) (get 6 5 0) (get 7 5 1) (mov 0 7) (mov 1 4) (jump 6)"

// firstLines begin with each word, before anything was told.
func firstLines() []dialogue {
	return []dialogue{
		{"nothing", nil, 2, 12},
		{"show first", [][2]string{{"show", "0"}}, 2, 12},
		{"type first", [][2]string{{"type", "i"}}, 2, 12},
		{"step first", [][2]string{{"step", "no"}, {"show", "0"}}, 2, 12},
		{"plain first", [][2]string{{"plain", "ok"}, {"show", "0"}}, 2, 12},
		{"normal first", [][2]string{{"normal", "ok"}, {"show", "0"}}, 2, 12},
		{"eval first", [][2]string{{"eval 1", "0 1"}}, 2, 12},
		{"compile first", [][2]string{{"compile", "ok"}, {"block main", zeroMain}}, 2, 12},
		{"trim first", [][2]string{{"trim", "ok"}, {"block main", zeroMain}}, 2, 12},
		{"thin first", [][2]string{{"thin", "ok"}, {"block main", zeroMain}}, 2, 12},
		{"check first", [][2]string{{"check", "yes"}}, 2, 12},
		{"run first", [][2]string{{"run 11", "0 11"}, {"run 10", "no"}}, 2, 12},
		{"main first", [][2]string{{"block main", zeroMain}}, 2, 12},
		{"end first", [][2]string{{"block end", "(halt 1)"}}, 2, 12},
		{"empty lines", [][2]string{{"", "what"}, {"", "what"}, {"show", "0"}, {"", "what"}}, 2, 12},
		{"a space", [][2]string{{" ", "what"}, {"  ", "what"}, {" show", "what"}}, 2, 12},
	}
}

// tooWideStep is an expression whose step would have 127 atoms.
const tooWideStep = "(let a (pair 0 (pair 0 (pair 0 (pair 0 (pair 0 (pair 0 (pair 0 0))))))) (pair (pair a a) (pair (pair a a) (pair (pair a a) (pair a a)))))"

func linesOnExprs() []dialogue {
	widePair := "(pair 0 (pair 0 (pair 0 (pair 0 (pair 0 (pair 0 (pair 0 0)))))))"
	twoWide := "(pair " + widePair + " " + widePair + ")"
	sum := sumOf(26, "1")
	return []dialogue{
		{"steps to the end", [][2]string{{"expr (+ (* 2 3) 4)", "ok"}, {"type", "i"}, {"step", "ok"}, {"show", "(+ 6 4)"}, {"step", "ok"}, {"show", "10"}, {"step", "no"}, {"show", "10"}, {"step", "no"}, {"eval 1", "10 1"}}, 2, 12},
		{"no expressions", [][2]string{{"expr (+ 1 2)", "ok"}, {"expr a", "no"}, {"show", "(+ 1 2)"}, {"expr (+ 1 a)", "no"}, {"expr (let a a a)", "no"}, {"expr (+ 1 2", "no"}, {"expr (+ 1 2 3)", "no"}, {"expr (> i i)", "no"}, {"expr ", "no"},
			{"expr ()", "no"}, {"expr 1000", "no"}, {"expr 01", "no"}, {"expr (+  1 2)", "no"}, {"expr \xff", "no"}, {"expr (+ 1 2)\r", "no"}, {"show", "(+ 1 2)"}, {"eval 3", "3 3"}, {"step", "ok"}, {"show", "3"}}, 2, 12},
		{"an open one", [][2]string{{"expr (let a 5 (+ a b))", "no"}, {"show", "0"}, {"expr (let a 5 (+ a a))", "ok"}, {"show", "(let a 5 (+ a a))"}, {"plain", "ok"}, {"show", "(let x0 5 (+ x0 x0))"}, {"plain", "ok"}, {"show", "(let x0 5 (+ x0 x0))"}, {"step", "ok"}, {"show", "(+ 5 5)"}}, 2, 12},
		{"stuck", [][2]string{{"expr (+ (+ 1 2) (fst 1))", "ok"}, {"type", "no"}, {"compile", "no"}, {"eval 2000", "no"}, {"step", "ok"}, {"step", "no"}, {"show", "(+ 3 (fst 1))"}, {"plain", "ok"}, {"normal", "ok"}, {"show", "(let y0 (fst 1) (+ 3 y0))"}, {"step", "no"},
			{"eval 9", "no"}, {"compile", "no"}, {"block main", zeroMain}}, 2, 12},
		{"without a type", [][2]string{{"expr (pair (fun f x i i (snd x)) 2)", "ok"}, {"type", "no"}, {"eval 3", "(pair fun 2) 3"}, {"step", "no"}, {"compile", "no"}, {"run 11", "0 11"}, {"show", "(pair (fun f x i i (snd x)) 2)"}}, 2, 12},
		{"types", [][2]string{{"expr (pair 1 (fun f x (* i i) i (fst x)))", "ok"}, {"type", "(* i (> (* i i) i))"}, {"expr (fun f x i (> i i) f)", "ok"}, {"type", "no"}, {"expr (fun f x i (> i i) (call f x))", "ok"}, {"type", "(> i (> i i))"}}, 2, 12},
		{"normal ones", [][2]string{{"expr (fst (pair (+ 1 2) 3))", "ok"}, {"normal", "ok"}, {"show", "(let y0 (+ 1 2) (let y1 (pair y0 3) (fst y1)))"}, {"normal", "ok"}, {"show", "(let x0 (+ 1 2) (let x1 (pair x0 3) (fst x1)))"}, {"type", "i"}, {"eval 99", "3 10"}, {"compile", "ok"}, {"run 999", "3 16"}}, 2, 17},
		{"no room for a normal one", [][2]string{{"expr " + sum, "ok"}, {"normal", "no"}, {"show", sum}, {"type", "i"}, {"compile", "no"}, {"plain", "ok"}, {"show", sum}, {"eval 51", "26 51"}, {"eval 50", "no"}, {"check", "yes"}}, 2, 12},
		{"no room for a step", [][2]string{{"expr " + tooWideStep, "ok"}, {"step", "no"}, {"show", tooWideStep}, {"type", "no"}, {"plain", "ok"}, {"step", "no"}, {"eval 31", "(pair " + twoWide + " (pair " + twoWide + " (pair " + twoWide + " " + twoWide + "))) 31"}, {"eval 30", "no"}}, 2, 12},
	}
}

// numbersAsRests asks with each text that is a number, or nearly one, with fuels at the bounds of Eval and Run.
func numbersAsRests() []dialogue {
	var dialogues []dialogue
	for _, rest := range []string{"", " ", "-1", "+1", "-0", "1a", "a1", "a", "x", "1 ", " 1", "1 1", "1.", "1.0", "1e3", "0x1", "1_0", "\t1", "1\r", "1\x00", "(1)", "\uff11", "\xb2", "00001", "00000", "00011", "10000", "20000", "12345", "99999", "4294967307", "18446744073709551627", strings.Repeat("0", 20) + "11"} {
		dialogues = append(dialogues, dialogue{"no number", [][2]string{{"eval " + rest, "no"}, {"run " + rest, "no"}, {"show", "0"}}, 2, 12})
	}
	just := "(+ (+ (+ " + countdown(284) + " 0) 0) 0)"
	long := "load " + wholeText(counting(499, 14, 16))
	longer := "load " + wholeText(counting(499, 15, 16))
	return append(dialogues, []dialogue{
		{"fuels", [][2]string{{"eval 0", "no"}, {"eval 1", "0 1"}, {"eval 01", "0 1"}, {"eval 001", "0 1"}, {"eval 0001", "0 1"}, {"eval 0000", "no"}, {"eval 2", "0 1"}, {"eval 999", "0 1"}, {"eval 1999", "0 1"}, {"eval 2000", "0 1"}, {"eval 2001", "no"}, {"eval 9999", "no"}}, 2, 12},
		{"fuels of runs", [][2]string{{"run 0", "no"}, {"run 0000", "no"}, {"run 1", "no"}, {"run 10", "no"}, {"run 0010", "no"}, {"run 11", "0 11"}, {"run 011", "0 11"}, {"run 0011", "0 11"}, {"run 2001", "0 11"}, {"run 9999", "0 11"}}, 2, 12},
		{"the most fuel", [][2]string{{"expr " + just, "ok"}, {"eval 2000", "0 2000"}, {"eval 1999", "no"}, {"expr (fst (pair " + just + " 1))", "ok"}, {"eval 2000", "no"}, {"eval 2003", "no"}}, 2, 12},
		{"the most fuel of a run", [][2]string{{long, "ok"}, {"run 9999", "0 9999"}, {"run 9998", "no"}}, 3, 18 + 20 + 1},
		{"more than that", [][2]string{{longer, "ok"}, {"run 9999", "no"}, {"run 10000", "no"}, {"check", "yes"}}, 3, 19 + 20 + 1},
		{"no fuel at all", [][2]string{{"load " + wholeText([]impl.Block{{Label: "main", Code: []string{"(const 0 5)", "(halt 0)"}}}), "ok"}, {"run 0", "no"}, {"run 1", "5 1"}, {"run 0001", "5 1"}}, 1, 2},
	}...)
}

func linesOnPrograms() []dialogue {
	idle := "load (program (block main (regs) (code (const 0 5) (const 1 6) (add 2 1 1) (lab 3 b) (zero 0 b) (halt 0))) (block b (regs) (code (const 0 1) (halt 0))) (block c (regs i) (code (const 1 1) (halt 0))))"
	leaving := "load (program (block main (regs) (code (lab 0 b) (const 0 1) (halt 0))) (block b (regs) (code (new 0) (halt 0))))"
	unchecked := "load (program (block main (regs) (code (const 0 5) (halt 1))))"
	bigger := "load (program (block main (regs) (code (const 0 5) (halt 0))))"
	return []dialogue{
		{"trim and thin", [][2]string{{idle, "ok"}, {"check", "yes"}, {"block main", "(const 0 5) (const 1 6) (add 2 1 1) (lab 3 b) (zero 0 b) (halt 0)"}, {"block c", "(const 1 1) (halt 0)"}, {"run 9", "5 5"}, {"trim", "ok"}, {"check", "yes"}, {"block c", "no"}, {"block b", "(const 0 1) (halt 0)"}, {"run 9", "5 5"},
			{"thin", "ok"}, {"check", "yes"}, {"block main", "(const 0 5) (zero 0 b) (halt 0)"}, {"run 9", "5 2"}, {"trim", "ok"}, {"thin", "ok"}, {"block b", "(const 0 1) (halt 0)"}}, 2, 5},
		{"thin alone", [][2]string{{idle, "ok"}, {"thin", "ok"}, {"check", "yes"}, {"block main", "(const 0 5) (zero 0 b) (halt 0)"}, {"block c", "(halt 0)"}, {"run 9", "5 2"}}, 3, 6},
		{"trim alone", [][2]string{{idle, "ok"}, {"trim", "ok"}}, 2, 8},
		{"loaded alone", [][2]string{{idle, "ok"}}, 3, 10},
		{"thin and trim", [][2]string{{leaving, "ok"}, {"trim", "ok"}, {"block b", "(new 0) (halt 0)"}, {"thin", "ok"}, {"block b", "(new 0) (halt 0)"}, {"trim", "ok"}, {"block b", "no"}, {"block main", "(const 0 1) (halt 0)"}}, 1, 2},
		{"not loaded", [][2]string{{bigger, "ok"}, {unchecked, "no"}, {"block main", "(const 0 5) (halt 0)"}, {"load ", "no"}, {"load (program)", "no"}, {"load  (program (block main (regs) (code (const 0 7) (halt 0))))", "no"}, {"load (program (block main (regs) (code (const 0 7) (halt 0)))) ", "no"},
			{"load 0", "no"}, {"load (const 0 7)", "no"}, {"load (program (block main (regs) (code (lab 0 b) (halt 0))))", "no"}, {"load (program (block b (regs) (code (const 0 7) (halt 0))))", "no"}, {"block main", "(const 0 5) (halt 0)"}, {"check", "yes"}, {"run 1", "5 1"}}, 1, 2},
		{"not loaded at first", [][2]string{{unchecked, "no"}, {"check", "yes"}, {"block main", zeroMain}}, 2, 12},
		{"labels", [][2]string{{"block main", zeroMain}, {"block end", "(halt 1)"}, {"block b0", "no"}, {"block ", "no"}, {"block main ", "no"}, {"block  main", "no"}, {"block main end", "no"}, {"block (main)", "no"}, {"block mai", "no"}, {"block mainx", "no"}, {"block MAIN", "no"}, {"block 0", "no"}, {"block \xff", "no"},
			{"expr (if 0 1 2)", "ok"}, {"block b0", "no"}, {"compile", "ok"}, {"block b0", "(const 5 1) (open 6 3) (get 7 6 0) (get 8 6 1) (mov 0 8) (mov 1 5) (jump 7)"}, {"block b1", "no"}}, 3, 21},
		{"a type of functions", [][2]string{{"expr (fun f x (* i i) i 0)", "ok"}, {"compile", "ok"}, {"run 99", "fun 14"}, {"block end", "(halt 1)"}, {"block b0", "(const 3 0) (open 4 2) (get 5 4 0) (get 6 4 1) (mov 0 6) (mov 1 3) (jump 5)"}}, 3, 22},
		{"long prints", [][2]string{{"load " + wholeText(growing(10)), "ok"}, {"run 99", pairsOf(10) + " 66"}, {"run 65", "no"}, {"load " + wholeText(growing(11)), "ok"}, {"run 99", "no"}, {"check", "yes"}}, 3, 12},
		{"long prints of values", [][2]string{{"expr " + doubled(10, "1"), "ok"}, {"eval 43", pairsOf(10) + " 43"}, {"eval 42", "no"}, {"expr " + doubled(11, "1"), "ok"}, {"eval 99", "no"}, {"type", "no"}}, 2, 12},
		{"without end", [][2]string{{"load (program (block main (regs) (code (lab 0 main) (jump 0))))", "ok"}, {"run 9999", "no"}, {"check", "yes"}, {"expr (call (fun f x i i (call f x)) 0)", "ok"}, {"eval 2000", "no"}, {"type", "i"}, {"compile", "ok"}, {"run 9999", "no"}, {"check", "yes"}}, 3, 27},
	}
}

// pairsOf is the print of pairs of equal halves, as many within each other as a number tells.
func pairsOf(n int) string {
	text := "1"
	for range n {
		text = "(pair " + text + " " + text + ")"
	}
	return text
}

// linesApart tell that the expression and the program do not lean on each other.
func linesApart() []dialogue {
	seven := "load (program (block main (regs) (code (const 0 7) (halt 0))))"
	return []dialogue{
		{"an expression alone", [][2]string{{"expr (+ 1 2)", "ok"}, {"run 99", "0 11"}, {"block main", zeroMain}, {"step", "ok"}, {"plain", "ok"}, {"normal", "ok"}, {"run 99", "0 11"}, {"show", "3"}}, 2, 12},
		{"a program alone", [][2]string{{"expr (+ 1 2)", "ok"}, {seven, "ok"}, {"show", "(+ 1 2)"}, {"eval 9", "3 3"}, {"type", "i"}, {"trim", "ok"}, {"thin", "ok"}, {"show", "(+ 1 2)"}, {"run 9", "7 1"}}, 1, 2},
		{"compiled", [][2]string{{"expr (+ 1 2)", "ok"}, {"compile", "ok"}, {"show", "(+ 1 2)"}, {"run 99", "3 13"}, {"expr 7", "ok"}, {"run 99", "3 13"}, {"eval 9", "7 1"}, {"compile", "ok"}, {"run 99", "7 11"}, {"expr (+ 1 2)", "ok"}, {"run 99", "7 11"}}, 2, 12},
		{"compiled again", [][2]string{{seven, "ok"}, {"run 1", "7 1"}, {"compile", "ok"}, {"run 99", "0 11"}, {seven, "ok"}, {"run 99", "7 1"}, {"expr (fst 1)", "ok"}, {"compile", "no"}, {"run 99", "7 1"}}, 1, 2},
		{"the last of them", [][2]string{{"expr (+ 1 2)", "ok"}, {"compile", "ok"}, {"zzz", "what"}, {"expr x", "no"}, {"load x", "no"}, {"block x", "no"}, {"run x", "no"}}, 2, 14},
	}
}

func dialogues() []dialogue {
	return slices.Concat(firstLines(), linesOnExprs(), numbersAsRests(), linesOnPrograms(), linesApart())
}

// checkDialogue checks what is told at the lines of a script, at the first ones of them, and behind what is ignored.
func checkDialogue(t *testing.T, d dialogue) {
	t.Helper()
	checkExecute(t, d.script(), d.output())
	for k := range d.lines {
		first := dialogue{lines: d.lines[:k]}
		output := impl.Execute(first.script())
		if !strings.HasPrefix(output, first.told()) || strings.Count(output, "\n") != k+1 {
			t.Errorf("%s: of the first %d lines the output is %q", d.name, k, cut(output))
		}
	}
}

func checkDialogues(t *testing.T, dialogues []dialogue) {
	t.Helper()
	for _, d := range dialogues {
		if len(d.script()) > impl.MaxScript {
			t.Fatalf("%s has %d bytes", d.name, len(d.script()))
		}
		checkDialogue(t, d)
	}
}

func TestFirstLines(t *testing.T) { checkDialogues(t, firstLines()) }

func TestLinesOnExprs(t *testing.T) { checkDialogues(t, linesOnExprs()) }

func TestLinesWithNumbers(t *testing.T) { checkDialogues(t, numbersAsRests()) }

func TestLinesOnPrograms(t *testing.T) { checkDialogues(t, linesOnPrograms()) }

func TestLinesApart(t *testing.T) { checkDialogues(t, linesApart()) }
