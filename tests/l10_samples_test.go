package tests

import (
	"math/rand"
	"regexp"
	"slices"
	"strconv"
	"strings"
	"sync"
	"testing"

	"loop.example/typedassembly/impl"
)

// scriptOracle does what the lines of a script tell with the oracles of the chapters ahead.
type scriptOracle struct {
	text    string
	program []impl.Block
}

var (
	lineAlone    = regexp.MustCompile(`^(step|plain|normal|show|type|compile|trim|thin|check)$`)
	lineWithRest = regexp.MustCompile(`(?s)^(expr|eval|load|run|block) (.*)$`)
	fourDigits   = regexp.MustCompile(`^[0-9]{1,4}$`)
)

// outputOf is the output of a script.
func outputOf(script string) string {
	if len(script) > impl.MaxScript {
		return "too long\n"
	}
	o := scriptOracle{"0", compiledOf("0")}
	output := ""
	for {
		end := strings.IndexByte(script, '\n')
		if end < 0 {
			return output + "blocks " + strconv.Itoa(len(o.program)) + " instructions " + strconv.Itoa(sizeOfProgram(o.program)) + "\n"
		}
		output += o.line(script[:end]) + "\n"
		script = script[end+1:]
	}
}

func (o *scriptOracle) line(line string) string {
	word, rest := line, ""
	if found := lineWithRest.FindStringSubmatch(line); found != nil {
		word, rest = found[1], found[2]
	} else if !lineAlone.MatchString(line) {
		return "what"
	}
	told := o.change(word, rest)
	if told == "" {
		told = o.ask(word, rest)
	}
	if told == "" {
		return "no"
	}
	return told
}

// change does what may change the expression or the program, and is "" if it does not.
func (o *scriptOracle) change(word string, rest string) string {
	text, program := "", []impl.Block(nil)
	switch word {
	case "expr":
		if isClosed(rest) {
			text = rest
		}
	case "step":
		text, _ = stepOf(o.text)
	case "plain":
		text = plainOf(o.text)
	case "normal":
		text = normalOf(o.text)
	case "compile":
		program = compiledOf(o.text)
	case "load":
		if program = programOfText(rest); !isChecked(program) {
			program = nil
		}
	case "trim":
		program = trimmedOf(o.program)
	case "thin":
		program = thinnedOf(o.program)
	}
	if text == "" && program == nil {
		return ""
	}
	if text != "" {
		o.text = text
	} else {
		o.program = program
	}
	return "ok"
}

// ask is what is asked for, or "".
func (o *scriptOracle) ask(word string, rest string) string {
	number := -1
	if fourDigits.MatchString(rest) {
		number, _ = strconv.Atoi(rest)
	}
	switch word {
	case "show":
		return o.text
	case "type":
		kind, _ := typingOf(env{}, o.text)
		return kind
	case "check":
		return map[bool]string{true: "yes", false: "no"}[isChecked(o.program)]
	case "eval":
		if number < 0 || number > impl.FuelMax {
			return ""
		}
		if printed, took, why := evalOf(o.text, number); why == "" {
			return printed + " " + strconv.Itoa(took)
		}
	case "run":
		return o.run(number)
	case "block":
		if b := blockOf(o.program, rest); b != nil {
			return strings.Join(b.Code, " ")
		}
	}
	return ""
}

func (o *scriptOracle) run(fuel int) string {
	if fuel < 0 {
		return ""
	}
	last, steps, end := ranOf(o.program, fuel)
	if end != "done" {
		return ""
	}
	printed := printIn(last, haltedWord(o.program, last))
	if printed == "" {
		return ""
	}
	return printed + " " + strconv.Itoa(steps)
}

// sampleScripts are scripts of complete lines, the same in each run: some that are written out, and random ones, short and long.
func sampleScripts() []string {
	return slices.Clone(onceScripts())
}

var onceScripts = sync.OnceValue(func() []string {
	var scripts []string
	for _, dialogue := range dialogues() {
		scripts = append(scripts, dialogue.script())
	}
	r := rand.New(rand.NewSource(101))
	for range 600 {
		scripts = append(scripts, randomScript(r, 1+r.Intn(impl.MaxScript)))
	}
	return scripts
})

// randomScript is a script of lines of at most so many bytes, most of which succeed.
func randomScript(r *rand.Rand, bytes int) string {
	script := ""
	for {
		line := randomLine(r) + "\n"
		if len(script)+len(line) > bytes {
			return script
		}
		script += line
	}
}

func randomLine(r *rand.Rand) string {
	some := func(texts ...string) string { return texts[r.Intn(len(texts))] }
	switch r.Intn(16) {
	case 0, 1, 2:
		return "expr " + some(shortExprs()...)
	case 3:
		return "load " + some(shortLoads()...)
	case 4:
		return "expr " + some(noClosed()...)
	case 5:
		return some("eval ", "run ") + some("0", "3", "10", "0027", "100", "300", "1999", "2001", "02000", "-1", "", "x")
	case 6:
		return "block " + some("main", "main", "end", "b0", "b1", "none", "", "main end")
	case 7:
		return some("", " ", "zzz", "show ", "expr", "step 1", "Show", "load", "eval\t1", "\xff", "check yes")
	case 8, 9:
		return "step"
	case 10, 11:
		return "compile"
	}
	return some("plain", "normal", "show", "type", "trim", "thin", "check", "eval 300", "run 300", "block main")
}

// shortExprs are closed expressions with and without a type, so short that there is room for other lines.
var shortExprs = sync.OnceValue(func() []string {
	return slices.DeleteFunc(append(sampleClosed(), sampleCompilings()...), func(text string) bool { return len(text) > 250 || !isClosed(text) })
})

// shortLoads are texts of programs, most of which check.
var shortLoads = sync.OnceValue(func() []string {
	var texts []string
	for k, program := range append(sampleChecked(), sampleLoadings()[:100]...) {
		if text := textOfProgram(program); text != "" && len(text) <= 600 && k%2 == 0 {
			texts = append(texts, text)
		}
	}
	return texts
})

func TestOracleKnowsScripts(t *testing.T) {
	for _, d := range dialogues() {
		if output := outputOf(d.script()); output != d.output() {
			t.Errorf("%s: the oracle answers %q", d.name, cut(output))
		}
	}
	counts := map[string]int{}
	for _, script := range sampleScripts() {
		if len(script) > impl.MaxScript || script != "" && !strings.HasSuffix(script, "\n") {
			t.Fatalf("%q is no script of complete lines", cut(script))
		}
		outputs := strings.Split(outputOf(script), "\n")
		for k, line := range strings.Split(script, "\n") {
			word, _, _ := strings.Cut(line, " ")
			switch outputs[k] {
			case "no", "what":
				word += " " + outputs[k]
			}
			counts[word]++
		}
	}
	for what, least := range map[string]int{"expr": 500, "expr no": 150, "step": 150, "step no": 150, "plain": 60, "normal": 60, "show": 60, "type": 50, "type no": 10, "eval": 60, "eval no": 60, "compile": 300, "compile no": 60,
		"load": 60, "load no": 10, "trim": 60, "thin": 60, "check": 60, "run": 60, "run no": 40, "block": 100, "block no": 60, " what": 15, "zzz what": 15, "show what": 15, "expr what": 15} {
		if counts[what] < least {
			t.Errorf("the samples have just %d of %q", counts[what], what)
		}
	}
}
