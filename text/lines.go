package text

import (
	"strings"

	"pollarding/api"
)

// What stands around the numbers of a text.
const (
	termsWord = "terms "
	namesWord = " names "
	termMark  = "t"
	nameMark  = "n"
	leftEnd   = ":"
	blank     = " "
	lineEnd   = "\n"
)

// readLines reads lines until one is wrong or there are no more. It answers how many it has read, and whether those are all.
func readLines(s string) (g api.Grammar, lines int, ok bool) {
	for s != "" {
		line, rest, ended := strings.Cut(s, lineEnd)
		if !ended || !readLine(&g, lines, line) {
			return g, lines, false
		}
		s = rest
		lines++
	}
	return g, lines, true
}

// readLine reads the line of that number into g. One rule beyond the limit is kept, so that the grammar may not be; a long text of more of them takes no more memory.
func readLine(g *api.Grammar, number int, line string) bool {
	if number == 0 {
		return readHead(g, line)
	}
	r, ok := readRule(line)
	if ok && len(g.Rules) <= api.MaxRules {
		g.Rules = append(g.Rules, r)
	}
	return ok
}

func readHead(g *api.Grammar, line string) bool {
	s := scanner{rest: line}
	s.word(termsWord)
	g.Terms = s.number()
	s.word(namesWord)
	g.Names = s.number()
	return s.done()
}

// readRule keeps one symbol beyond the limit, as readLine does with rules.
func readRule(line string) (api.Rule, bool) {
	s := scanner{rest: line}
	s.word(nameMark)
	r := api.Rule{Left: s.number()}
	s.word(leftEnd)
	for s.more() {
		sym := s.symbol()
		if len(r.Right) <= api.MaxRight {
			r.Right = append(r.Right, sym)
		}
	}
	return r, s.done()
}
