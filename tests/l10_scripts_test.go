package tests

import (
	"strings"
	"testing"

	"loop.example/typedassembly/impl"
)

// checkExecute checks the output of a script.
func checkExecute(t *testing.T, script string, want string) {
	t.Helper()
	if output := impl.Execute(script); output != want {
		t.Errorf("Execute(%q) is %q, not %q", cut(script), cut(output), cut(want))
	}
}

func TestScriptsWithoutLines(t *testing.T) {
	for _, script := range []string{"", "show", "zzz", " ", "expr (+ 1 2)", "load", "\r", "\x00", "\xff", "compile\r", strings.Repeat("x", impl.MaxScript), "expr " + strings.Repeat(" ", impl.MaxScript-5)} {
		checkExecute(t, script, lastLine(2, 12))
	}
}

// What follows the last newline is ignored (P94).
func TestScriptsWithABrokenOffLine(t *testing.T) {
	for _, tail := range []string{"", "s", "show", "show ", "zzz", "expr x", "expr 5", "step", "compile", "load (program (block main (regs) (code (const 0 7) (halt 0))))", "\r", "\xff", strings.Repeat("y", 800)} {
		checkExecute(t, "show\n"+tail, "0\n"+lastLine(2, 12))
		checkExecute(t, "\n"+tail, "what\n"+lastLine(2, 12))
		checkExecute(t, "expr (+ 1 2)\ncompile\nzzz\n"+tail, "ok\nok\nwhat\n"+lastLine(2, 14))
	}
}

func TestScriptsOfTheGreatestLength(t *testing.T) {
	shows := strings.Repeat("show\n", impl.MaxScript/len("show\n"))
	checkExecute(t, shows, strings.Repeat("0\n", 180)+lastLine(2, 12))
	checkExecute(t, shows[:len(shows)-1], strings.Repeat("0\n", 179)+lastLine(2, 12))
	checkExecute(t, strings.Repeat("\n", impl.MaxScript), strings.Repeat("what\n", impl.MaxScript)+lastLine(2, 12))
	for _, bytes := range []int{impl.MaxScript - 1, impl.MaxScript} {
		checkExecute(t, strings.Repeat("x", bytes-1)+"\n", "what\n"+lastLine(2, 12))
		checkExecute(t, "show\n"+strings.Repeat("x", bytes-5), "0\n"+lastLine(2, 12))
		checkExecute(t, "expr "+strings.Repeat("(", bytes-6)+"\n", "no\n"+lastLine(2, 12))
	}
	load := "load " + wholeText(longLabelled(impl.MaxScript-len("load \n"))) + "\n"
	checkExecute(t, load, "ok\n"+lastLine(2, 3))
	checkExecute(t, load+"\n", "too long\n")
}

// Nothing but the length of such a script counts, not even whether there is a line.
func TestScriptsThatAreTooLong(t *testing.T) {
	for _, script := range []string{
		strings.Repeat("show\n", 180) + "\n", strings.Repeat("show\n", 180) + "x", strings.Repeat("x", 901), strings.Repeat("\n", 901), strings.Repeat("\xff", 901), strings.Repeat("\u00e9", 451), strings.Repeat("x", 900) + "\n",
		strings.Repeat("show\n", 181), strings.Repeat("show\n", 1<<18), strings.Repeat("x", 1<<20), strings.Repeat("\n", 1<<20), "expr " + strings.Repeat("(", 1<<20) + "\n",
	} {
		checkExecute(t, script, "too long\n")
	}
	checkExecute(t, strings.Repeat("\u00e9", 449)+"x\n", "what\n"+lastLine(2, 12))
}

func TestScriptsOfOtherBytes(t *testing.T) {
	for b := range 256 {
		text := string([]byte{byte(b)})
		if text == "\n" {
			continue
		}
		for _, line := range []string{text, text + "show", "show" + text, "sh" + text + "ow", text + " 1", "eval" + text + "1", "run" + text + "11", text + text, text + "expr 1"} {
			want := "what"
			if line == "eval 1" {
				want = "0 1"
			} else if line == "run 11" {
				want = "0 11"
			}
			checkExecute(t, line+"\nshow\n", want+"\n0\n"+lastLine(2, 12))
		}
		checkExecute(t, "expr "+text+"\n", map[bool]string{true: "ok", false: "no"}['0' <= b && b <= '9']+"\n"+lastLine(2, 12))
		checkExecute(t, "eval "+text+"\n", map[bool]string{true: "0 1", false: "no"}['1' <= b && b <= '9']+"\n"+lastLine(2, 12))
		checkExecute(t, "block main"+text+"\n", "no\n"+lastLine(2, 12))
	}
	checkExecute(t, "show\r\nshow\n\r\nshow\n", "what\n0\nwhat\n0\n"+lastLine(2, 12))
	checkExecute(t, "show\vshow\n\u2028show\n\u0085\n\x00\n\ufeffshow\n", "what\nwhat\nwhat\nwhat\nwhat\n"+lastLine(2, 12))
}

// saidAlone is what is told for each word without a rest, behind lines that make a program of (+ 1 2).
func saidAlone() map[string]string {
	return map[string]string{"step": "ok", "plain": "ok", "normal": "ok", "show": "(+ 1 2)", "type": "i", "compile": "ok", "trim": "ok", "thin": "ok", "check": "yes"}
}

// restsOfWords are rests for each word with one, and what is told.
func restsOfWords() map[string][2]string {
	return map[string][2]string{"expr": {"(- 1 2)", "ok"}, "eval": {"3", "3 3"}, "load": {"(program (block main (regs) (code (const 0 7) (halt 0))))", "ok"}, "run": {"13", "3 13"}, "block": {"end", "(halt 1)"}}
}

// checkLine checks what is told for a line behind others, and that it leaves the expression and the program as they are, if it is another one or fails.
func checkLine(t *testing.T, line string, want string) {
	t.Helper()
	before := "expr (+ 1 2)\ncompile\n"
	told := impl.Execute(before + line + "\n")
	if !strings.HasPrefix(told, "ok\nok\n"+want+"\nblocks ") {
		t.Errorf("of %q is told %q, not %q", cut(line), cut(told), want)
	}
	if want == "no" || want == "what" {
		checkExecute(t, before+line+"\nshow\nrun 13\n", "ok\nok\n"+want+"\n(+ 1 2)\n3 13\n"+lastLine(2, 14))
	}
}

func TestWordsWithoutRests(t *testing.T) {
	for word, want := range saidAlone() {
		checkLine(t, word, want)
		for _, other := range []string{word + " ", word + "  ", word + " " + word, word + " 1", word + " x", word + " (+ 1 2)", " " + word, "  " + word, word + "\t", word + "\r", "\t" + word, word + "\x00", word + ".", word + "s", word + "1", word + word, word[1:], word[:len(word)-1], strings.ToUpper(word), strings.ToUpper(word[:1]) + word[1:], "x" + word, word + "\xff", word + "\u00a0"} {
			checkLine(t, other, "what")
		}
	}
}

func TestWordsWithRests(t *testing.T) {
	for word, said := range restsOfWords() {
		rest, want := said[0], said[1]
		checkLine(t, word+" "+rest, want)
		for _, failing := range []string{word + " ", word + "  ", word + "  " + rest, word + " " + rest + " ", word + " \t" + rest, word + " " + rest + "\r", word + " " + rest + "\x00", word + " " + rest + " " + rest, word + " " + word, word + " " + word + " " + rest, word + " (" + rest + ")", word + " \xff"} {
			checkLine(t, failing, "no")
		}
		for _, other := range []string{word, " " + word + " " + rest, word + rest, word + "\t" + rest, word + "\r " + rest, word + ". " + rest, word + "s " + rest, word[1:] + " " + rest, word[:len(word)-1] + " " + rest, strings.ToUpper(word) + " " + rest, strings.ToUpper(word[:1]) + word[1:] + " " + rest, "x" + word + " " + rest, word + "\u00a0" + rest, word + word + " " + rest, "(" + word + " " + rest + ")"} {
			checkLine(t, other, "what")
		}
	}
}

func TestOtherWords(t *testing.T) {
	for _, line := range []string{"", " ", "   ", "zzz", "zzz ", "zzz x", "what", "no", "ok", "yes", "quit", "help", "exit", "expression 1", "put 1", "typed", "fault", "kind", "size", "blocks", "instructions", "reach", "link", "rename main x", "names", "wants", "idle", "stuck", "steps 2", "print", "fuel", "eval,1", "block,main", "#", "# show", "// show", "(+ 1 2)", "0", "main", "show;show", "show,", "show show", strings.Repeat("show", 100), strings.Repeat("z", 800)} {
		checkLine(t, line, "what")
	}
}

// Nothing is kept between calls.
func TestScriptsAgain(t *testing.T) {
	const changing = "expr (+ 1 2)\ncompile\nexpr (let a 1 a)\nload (program (block main (regs) (code (const 0 7) (halt 0))))\n"
	for range 3 {
		checkExecute(t, changing+"show\nrun 1\n", "ok\nok\nok\nok\n(let a 1 a)\n7 1\n"+lastLine(1, 2))
		checkExecute(t, "show\nrun 11\nblock main\n", "0\n0 11\n"+zeroMain+"\n"+lastLine(2, 12))
		checkExecute(t, strings.Repeat("x", 901), "too long\n")
		checkExecute(t, "zzz\nexpr x\n", "what\nno\n"+lastLine(2, 12))
		checkExecute(t, "", lastLine(2, 12))
	}
}
