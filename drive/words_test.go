package drive_test

import (
	"regexp"
	"strconv"
	"strings"
	"testing"

	"pollarding/api"
	"pollarding/drive"
	"pollarding/parse"
	"pollarding/recog"
	"pollarding/sets"
	"pollarding/short"
	"pollarding/step"
	"pollarding/table"
	"pollarding/text"
)

// The forms of lines with numbers, by J1's and J2's words.
var (
	tokensForm = regexp.MustCompile(`\A(has|parse)((?: (?:0|[1-9][0-9]{0,5}))*)\z`)
	stepForm   = regexp.MustCompile(`\Astep (0|[1-9][0-9]{0,5}) (0|[1-9][0-9]{0,5}) (0|[1-9][0-9]{0,5}) (0|[1-9][0-9]{0,5})\z`)
)

// state is what a script has come to: the lines of the text, and the grammar, if there is one.
type state struct {
	text []string
	g    *api.Grammar
}

// byWords answers what Play is to answer, by forms, and with all lines at hand.
func byWords(script string) string {
	each := strings.Split(script, "\n")
	if each[len(each)-1] == "" {
		each = each[:len(each)-1]
	}
	var s state
	var out string
	for i, line := range each {
		if i < 60 {
			out += s.line(line) + "\n"
		}
	}
	return out
}

func (s *state) whole() string { return lines(s.text...) }

func (s *state) line(line string) string {
	if strings.HasPrefix(line, "= ") {
		s.text = append(s.text, line[2:])
		return words("ok", len(s.whole()))
	}
	if line == "fresh" {
		s.text = nil
		return "ok"
	}
	if line == "take" {
		g, f := text.Parse(s.whole())
		if f.Code != api.OK {
			return words("bad", f.At)
		}
		s.g = &g
		return words("ok", len(g.Rules))
	}
	tokens, four := tokensForm.FindStringSubmatch(line), stepForm.FindStringSubmatch(line)
	isWord := line == "sets" || line == "short" || line == "table" || line == "show"
	switch {
	case !isWord && tokens == nil && four == nil:
		return "?"
	case s.g == nil:
		return "none"
	case tokens != nil:
		return ofTokens(*s.g, tokens[1], digits(strings.Fields(tokens[2])))
	case four != nil:
		return s.ofStep(digits(four[1:]))
	}
	return ofWord(*s.g, line)
}

func ofTokens(g api.Grammar, word string, tokens []int) string {
	if word == "has" {
		is, e := recog.Has(g, tokens)
		if e != api.OK {
			return words("bad", int(e))
		}
		return map[bool]string{true: "yes", false: "no"}[is]
	}
	d, at, e := parse.Parse(g, tokens)
	if e != api.OK {
		return words("bad", int(e))
	}
	if at != -1 {
		return words("at", at)
	}
	return words("is", d...)
}

func (s *state) ofStep(n []int) string {
	g, e := step.Do(*s.g, api.Step{Op: n[0], A: n[1], B: n[2], C: n[3]})
	if e != api.OK {
		return words("bad", int(e))
	}
	s.g = &g
	return words("ok", len(g.Rules))
}

func ofWord(g api.Grammar, word string) string {
	switch word {
	case "sets":
		known, _ := sets.Of(g)
		var out []int
		for n := range g.Names {
			null := 0
			if known.Null[n] {
				null = 1
			}
			out = append(out, null, soMany(known.First[n]), soMany(known.Follow[n]))
		}
		return words("", out...)
	case "short":
		all, _ := short.Of(g)
		return words("", all...)
	case "table":
		x, e := table.Of(g)
		if e != api.OK {
			return words("bad", int(e))
		}
		return words("", len(x.Cells), table.Clashes(x))
	}
	s, _ := text.Print(g)
	return words("", len(s))
}

func soMany(truths []bool) int {
	n := 0
	for _, is := range truths {
		if is {
			n++
		}
	}
	return n
}

func words(first string, numbers ...int) string {
	out := first
	for _, n := range numbers {
		out += " " + strconv.Itoa(n)
	}
	return strings.TrimPrefix(out, " ")
}

func digits(each []string) []int {
	var out []int
	for _, s := range each {
		n, e := strconv.Atoi(s)
		if e != nil {
			panic(e)
		}
		out = append(out, n)
	}
	return out
}

// checkWords holds Play against the words.
func checkWords(t *testing.T, script string) {
	t.Helper()
	if got, want := drive.Play(script), byWords(script); got != want {
		t.Fatalf("%q: %q, not %q", script, got, want)
	}
}

// anyLine is a line by numbers: of all kinds, right and wrong.
func anyLine(below func(n int) int) string {
	number := func() string { return strconv.Itoa(below(5)) }
	switch below(12) {
	case 0, 1:
		line := "has"
		if below(2) == 0 {
			line = "parse"
		}
		for range below(6) {
			line += " " + number()
		}
		return line
	case 2, 3, 4, 5:
		return "step " + strconv.Itoa(1+below(5)) + " " + number() + " " + number() + " " + number()
	case 6:
		return "step " + strconv.Itoa(4+below(2)) + " 0 0 0"
	case 7:
		return asking[below(len(asking))]
	case 8:
		return wrong[below(len(wrong))]
	case 9:
		return "= " + strings.Split(namesText, "\n")[below(6)]
	case 10:
		return []string{"take", "take", "fresh", "= ", "= x"}[below(5)]
	}
	return []string{"sets", "short", "table", "show"}[below(4)]
}

// anyScript is a script by numbers: texts are taken, and lines of all kinds stand behind them.
func anyScript(below func(n int) int) string {
	var out string
	for range 1 + below(3) {
		if below(8) > 0 {
			script, _ := taking(smallText(below))
			out += script
		}
		for range below(30) {
			out += anyLine(below) + "\n"
		}
	}
	if below(3) == 0 {
		out += anyLine(below)
	}
	return out
}

// J1 and J2: many scripts.
func TestManyScripts(t *testing.T) {
	below := numbers()
	for range 3000 {
		checkWords(t, anyScript(below))
	}
}

// J2: all lines of a few pieces, with a grammar and without.
func TestPieces(t *testing.T) {
	taken, _ := taking(chapterText)
	all, more := []string{""}, []string{""}
	for range 4 {
		var next []string
		for _, s := range more {
			for _, p := range []string{"= ", "fresh", "take", "sets", "show", "has", "parse", "step", " ", "0", " 0", " 1 1", "\n", "x"} {
				next = append(next, s+p)
			}
		}
		all = append(all, next...)
		more = next
	}
	for _, s := range all {
		checkWords(t, s)
		checkWords(t, taken+s)
	}
}

// J1 and J2: scripts with one byte left out, put in, or another one.
func TestNearScripts(t *testing.T) {
	bytes := "019= stx-\n\r\x00\xff"
	script := "= terms 2 names 2\n= n0: n0 t0\n= n0: n1\n= n1: t1\ntake\nsets\nshort\ntable\nhas 1 0\nparse 1 0\nstep 4 0 0 0\nshow\nparse 1 0 0\nfresh\n=  \n"
	for i := range len(script) {
		checkWords(t, script[:i])
		checkWords(t, script[i:])
		checkWords(t, script[:i]+script[i+1:])
		for k := range len(bytes) {
			checkWords(t, script[:i]+bytes[k:k+1]+script[i:])
			checkWords(t, script[:i]+bytes[k:k+1]+script[i+1:])
		}
	}
}
