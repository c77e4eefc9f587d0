package tests

import (
	"slices"
	"strconv"
	"strings"
	"sync"
	"testing"

	"loop.example/typedassembly/impl"
)

// toldBy is what a script tells at its lines, and its last line.
func toldBy(t *testing.T, script string) ([]string, string) {
	t.Helper()
	output := impl.Execute(script)
	told := strings.Split(strings.TrimSuffix(output, "\n"), "\n")
	last := told[len(told)-1]
	if !strings.HasSuffix(output, "\n") || len(told) != strings.Count(script, "\n")+1 || !strings.HasPrefix(last, "blocks ") {
		t.Errorf("Execute(%q) is %q", cut(script), cut(output))
	}
	return told[:len(told)-1], last
}

// checkMore checks what is told behind a script of complete lines by more of them, and that the last line stays.
func checkMore(t *testing.T, script string, more string, want ...string) {
	t.Helper()
	told, last := toldBy(t, script)
	behind, lastBehind := toldBy(t, script+more)
	if !slices.Equal(behind, append(told, want...)) || lastBehind != last {
		t.Errorf("behind %q, %q tells %q", cut(script), more, behind)
	}
}

// P94, P95 and P96, too.
func TestScriptsTellWhatTheOracleTells(t *testing.T) {
	for _, script := range sampleScripts() {
		checkExecute(t, script, outputOf(script))
		room := impl.MaxScript - len(script)
		for _, tail := range []string{"show", "expr 5", "zzz", "compile", strings.Repeat("x", room)} {
			if len(tail) <= room {
				checkExecute(t, script+tail, impl.Execute(script))
			}
		}
		if room >= 12 {
			checkMore(t, script, "zzz\nexpr x\n", "what", "no")
		}
		if room >= 10 {
			told, _ := toldBy(t, script+"show\nshow\n")
			if first, second := told[len(told)-2], told[len(told)-1]; first != second {
				t.Errorf("%q shows %q and then %q", cut(script), first, second)
			}
		}
	}
}

// changes tells whether a line changes something, if this is told.
func changes(line string, told string) bool {
	word, _, _ := strings.Cut(line, " ")
	return told == "ok" && slices.Contains([]string{"expr", "step", "plain", "normal", "compile", "load", "trim", "thin"}, word)
}

// Lines that ask, that fail, and that are others can be left out, and nothing else is told at the lines that are left.
func TestLinesThatChangeNothing(t *testing.T) {
	for k, script := range sampleScripts() {
		if k%2 != 0 {
			continue
		}
		told, last := toldBy(t, script)
		lines := strings.SplitAfter(script, "\n")
		kept, keptTold := "", []string{}
		for i, out := range told {
			if changes(strings.TrimSuffix(lines[i], "\n"), out) {
				kept += lines[i]
				keptTold = append(keptTold, out)
			}
		}
		if behind, lastBehind := toldBy(t, kept); !slices.Equal(behind, keptTold) || lastBehind != last {
			t.Errorf("of %q the lines %q are left, and tell %q and %q", cut(script), cut(kept), behind, lastBehind)
		}
	}
}

// checkIfRoom checks the output of a script, if it is not too long, and tells whether there is room.
func checkIfRoom(t *testing.T, script string, want string) int {
	t.Helper()
	if len(script) > impl.MaxScript {
		checkExecute(t, script, "too long\n")
		return 0
	}
	checkExecute(t, script, want)
	return 1
}

// TestScriptsWithOneExpr: P97, P98, P99 and P100.
func TestScriptsWithOneExpr(t *testing.T) {
	steps, types, evals, compiles := 0, 0, 0, 0
	for k, text := range append(sampleClosed(), sampleCompilings()...) {
		if next, ok := impl.Step(text); ok {
			steps += checkIfRoom(t, "expr "+text+"\nstep\nshow\n", "ok\nok\n"+next+"\n"+lastLine(2, 12))
		}
		if kind, ok := impl.ExprType(nil, nil, text); ok {
			types += checkIfRoom(t, "expr "+text+"\ntype\n", "ok\n"+kind+"\n"+lastLine(2, 12))
		}
		if took := impl.EvalFuel(text); took >= 0 && k%3 == 0 {
			printed, _, _ := impl.Eval(text, took)
			want := "ok\n" + printed + " " + strconv.Itoa(took) + "\n" + lastLine(2, 12)
			evals += checkIfRoom(t, "expr "+text+"\neval "+strconv.Itoa(took)+"\n", want)
			evals += checkIfRoom(t, "expr "+text+"\neval 2000\n", want)
			evals += checkIfRoom(t, "expr "+text+"\neval "+strconv.Itoa(took-1)+"\n", "ok\nno\n"+lastLine(2, 12))
		}
		if program, ok := impl.Compile(text); ok && k%2 == 0 {
			compiles += checkIfRoom(t, "expr "+text+"\ncompile\ncheck\nblock main\n", "ok\nok\nyes\n"+strings.Join(program[0].Code, " ")+"\n"+lastLine(len(program), impl.ProgramSize(program)))
		}
	}
	if steps < 1000 || types < 1000 || evals < 1000 || compiles < 400 {
		t.Errorf("there was room for %d steps, %d types, %d evaluations and %d programs", steps, types, evals, compiles)
	}
}

// TestScriptsWithOneProgram: P101, and what else is told of a program that is loaded.
func TestScriptsWithOneProgram(t *testing.T) {
	rooms := 0
	for _, program := range sampleChecked() {
		load := "load " + wholeText(program) + "\n"
		thin, ok := impl.ProgramThin(program)
		left, fine := impl.ProgramTrim(thin)
		if !ok || !fine {
			t.Fatalf("there is no thin one of\n%.1000s", listed(program))
		}
		rooms += checkIfRoom(t, load+"thin\ntrim\n", "ok\nok\nok\n"+lastLine(len(left), impl.ProgramSize(left)))
		checkIfRoom(t, load, "ok\n"+lastLine(len(program), impl.ProgramSize(program)))
		trimmed, _ := impl.ProgramTrim(program)
		checkIfRoom(t, load+"trim\ncheck\n", "ok\nok\nyes\n"+lastLine(len(trimmed), impl.ProgramSize(trimmed)))
		checkIfRoom(t, load+"thin\ncheck\n", "ok\nok\nyes\n"+lastLine(len(thin), impl.ProgramSize(thin)))
		run := "no"
		if printed, steps, ok := impl.Run(program, 400); ok {
			run = printed + " " + strconv.Itoa(steps)
		}
		checkIfRoom(t, load+"run 400\nshow\n", "ok\n"+run+"\n0\n"+lastLine(len(program), impl.ProgramSize(program)))
		for _, b := range program {
			checkIfRoom(t, load+"block "+b.Label+"\n", "ok\n"+strings.Join(b.Code, " ")+"\n"+lastLine(len(program), impl.ProgramSize(program)))
		}
	}
	if rooms < 300 {
		t.Errorf("there was room for %d programs", rooms)
	}
}

// What is no expression, is not closed, and is no text of a program that checks is told to fail, and changes nothing.
func TestScriptsThatFail(t *testing.T) {
	for _, text := range slices.Concat(noClosed(), noExprs(), []string{"", " ", "0 ", " 0", "0 0", "-0", "+0", "-1000"}) {
		if !strings.Contains(text, "\n") {
			checkIfRoom(t, "expr (+ 1 2)\nexpr "+text+"\nshow\n", "ok\nno\n(+ 1 2)\n"+lastLine(2, 12))
		}
	}
	fails := slices.Concat(noProgramTexts(), fixedFaults(), noExprs())
	for _, s := range stuckPrograms() {
		fails = append(fails, wholeText(s.program))
	}
	for _, program := range sampleLoadings() {
		if !isChecked(program) {
			fails = append(fails, wholeText(program))
		}
	}
	for _, text := range fails {
		if !strings.Contains(text, "\n") {
			checkIfRoom(t, "load "+text+"\nrun 11\n", "no\n0 11\n"+lastLine(2, 12))
		}
	}
	for _, text := range stuckExprs() {
		checkExecute(t, "expr "+text+"\nstep\ntype\ncompile\neval 2000\nshow\nrun 11\n", "ok\nno\nno\nno\nno\n"+text+"\n0 11\n"+lastLine(2, 12))
	}
}

func TestScriptsAtOnce(t *testing.T) {
	scripts := sampleScripts()
	var outputs []string
	for _, script := range scripts {
		outputs = append(outputs, impl.Execute(script))
	}
	var group sync.WaitGroup
	for part := range 4 {
		group.Go(func() {
			for k := part; k < len(scripts); k += 4 {
				back := len(scripts) - 1 - k
				if output := impl.Execute(scripts[back]); output != outputs[back] {
					t.Errorf("Execute(%q) is %q at another time", cut(scripts[back]), cut(output))
				}
			}
		})
	}
	group.Wait()
}

// The output shares no memory with the script.
func TestOutputsAreNewTexts(t *testing.T) {
	for _, script := range sampleScripts() {
		script = strings.Clone(script)
		if output := impl.Execute(script); overlaps(output, script) {
			t.Fatalf("the output of %q is a part of it", cut(script))
		}
	}
}
