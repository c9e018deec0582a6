package drive

import (
	"strings"

	"pollarding/api"
)

// player is what a script has come to. The grammar is one that may be, or, as long as there is none, the empty one, which has no names.
type player struct {
	api.Grammar
	text string
}

// answerer answers what answers a line (J2).
func (p *player) answerer(line string) func() string {
	if bytes, ok := strings.CutPrefix(line, "= "); ok {
		return func() string { return p.put(bytes) }
	}
	switch line {
	case "fresh":
		return p.fresh
	case "take":
		return p.take
	case "sets":
		return p.ofGrammar(p.sets)
	case "short":
		return p.ofGrammar(p.short)
	case "table":
		return p.ofGrammar(p.table)
	case "show":
		return p.ofGrammar(p.show)
	}
	return p.numbersAnswerer(line)
}

// numbersAnswerer answers what answers a line of a word and NUMBERs, or any other line.
func (p *player) numbersAnswerer(line string) func() string {
	word, numbers, ok := readNumbers(line)
	switch {
	case ok && word == "has":
		return p.ofGrammar(func() string { return p.has(numbers) })
	case ok && word == "parse":
		return p.ofGrammar(func() string { return p.parse(numbers) })
	case ok && word == "step" && len(numbers) == 4:
		s := api.Step{Op: numbers[0], A: numbers[1], B: numbers[2], C: numbers[3]}
		return p.ofGrammar(func() string { return p.step(s) })
	}
	return func() string { return "?" }
}

// ofGrammar answers answer itself, if there is a grammar that it may ask.
func (p *player) ofGrammar(answer func() string) func() string {
	if p.Names == 0 {
		return func() string { return "none" }
	}
	return answer
}
