package step_test

import (
	"slices"
	"strconv"
	"strings"
	"testing"

	"pollarding/api"
	"pollarding/gram"
	"pollarding/reach"
	"pollarding/step"
)

// lines are a grammar's rules as words: a name's number and ":", and a word of each symbol. H1's words are done on these, apart from the program's own ways.
func lines(g api.Grammar) [][]string {
	var out [][]string
	for _, r := range g.Rules {
		out = append(out, strings.Fields(ruleText(r)))
	}
	return out
}

func leftWord(n int) string { return strconv.Itoa(n) + ":" }

// isOne tells by H1's words whether s is one of the steps.
func isOne(g api.Grammar, s api.Step) bool {
	all := lines(g)
	isRule := s.A >= 0 && s.A < len(all)
	switch s.Op {
	case api.SSwap:
		return s.A >= 1 && s.A < g.Names && s.B >= 1 && s.B < g.Names && s.C == 0
	case api.SExtract:
		return isRule && s.B >= 0 && s.B < s.C && s.C <= len(all[s.A])-1
	case api.SInline:
		if !isRule || s.B < 0 || s.B >= len(all[s.A])-1 || s.C != 0 {
			return false
		}
		word := all[s.A][s.B+1]
		return word[0] != 't' && word+":" != all[s.A][0]
	case api.SLeft:
		own := slices.DeleteFunc(all, func(line []string) bool {
			return line[0] != leftWord(s.A) || len(line) == 1 || line[1]+":" != line[0]
		})
		alone := slices.ContainsFunc(own, func(line []string) bool { return len(line) == 2 })
		return len(own) > 0 && !alone && s.A >= 0 && s.A < g.Names && s.B == 0 && s.C == 0
	case api.SPrune:
		return s == api.Step{Op: api.SPrune}
	}
	return false
}

// byWords answers by H1's words what comes of a step that is one of them.
func byWords(g api.Grammar, s api.Step) api.Grammar {
	all := lines(g)
	names, more := g.Names, strconv.Itoa(g.Names)
	switch s.Op {
	case api.SSwap:
		swapWords(all, strconv.Itoa(s.A), strconv.Itoa(s.B))
	case api.SExtract:
		names++
		part := slices.Clone(all[s.A][s.B+1 : s.C+1])
		all[s.A] = slices.Replace(all[s.A], s.B+1, s.C+1, more)
		all = append(all, slices.Insert(part, 0, more+":"))
	case api.SInline:
		all = inlineWords(all, s.A, s.B+1)
	case api.SLeft:
		names++
		for i, line := range all {
			switch {
			case line[0] != leftWord(s.A):
			case len(line) > 1 && line[1]+":" == line[0]:
				all[i] = append(append([]string{more + ":"}, line[2:]...), more)
			default:
				all[i] = append(line, more)
			}
		}
		all = append(all, []string{more + ":"})
	case api.SPrune:
		all = pruneWords(g, all)
	}
	var texts []string
	for _, line := range all {
		texts = append(texts, strings.Join(line, " "))
	}
	return spelt(g.Terms, names, strings.Join(texts, ";"))
}

func swapWords(all [][]string, a, b string) {
	for _, line := range all {
		for i, word := range line {
			switch word {
			case a:
				line[i] = b
			case b:
				line[i] = a
			case a + ":":
				line[i] = b + ":"
			case b + ":":
				line[i] = a + ":"
			}
		}
	}
}

func inlineWords(all [][]string, a, at int) [][]string {
	var out [][]string
	for i, line := range all {
		if i != a {
			out = append(out, line)
			continue
		}
		for _, other := range all {
			if other[0] == line[at]+":" {
				out = append(out, slices.Replace(slices.Clone(line), at, at+1, other[1:]...))
			}
		}
	}
	return out
}

func pruneWords(g api.Grammar, all [][]string) [][]string {
	makes, _ := reach.Makes(g)
	comes, _ := reach.Comes(g)
	var out [][]string
	for i, r := range g.Rules {
		stays := makes[r.Left] && comes[r.Left]
		for _, s := range r.Right {
			stays = stays && (s.Term || makes[s.N])
		}
		if stays {
			out = append(out, all[i])
		}
	}
	return out
}

// H1, by its words, on many small grammars and all steps.
func TestDoByWords(t *testing.T) {
	looked := map[int]int{}
	eachSmall(func(g api.Grammar) {
		eachStep(g, func(s api.Step) {
			h, e := step.Do(g, s)
			if !isOne(g, s) {
				if e != api.ErrForm || h.Names != 0 {
					t.Fatalf("%s: %v: %s, the error %v, not ErrForm", told(g), s, told(h), e)
				}
				looked[0]++
				return
			}
			if want := byWords(g, s); e != api.OK || !same(h, want) || !gram.May(want) {
				t.Fatalf("%s: %v: %s, the error %v, not %s", told(g), s, told(h), e, told(want))
			}
			looked[s.Op]++
		})
	})
	for op := range api.SPrune + 1 {
		if looked[op] < 300 {
			t.Error("too few steps were looked at:", looked)
		}
	}
}

// great answers a grammar near A1's limits, by numbers: many steps on it are too much.
func great(below func(n int) int) api.Grammar {
	g := with(below(api.MaxTerms+1), api.MaxNames-below(3))
	for range api.MaxRules - below(5) {
		r := rule(below(g.Names))
		for range api.MaxRight - below(8) {
			s := name(below(g.Names))
			if below(2) == 0 && g.Terms > 0 {
				s = term(below(g.Terms))
			}
			r.Right = append(r.Right, s)
		}
		g.Rules = append(g.Rules, r)
	}
	return g
}

// H1, by its words, on grammars near the limits.
func TestDoByWordsAtLimits(t *testing.T) {
	below := numbers()
	looked := map[int]map[api.Errno]int{}
	for op := range api.SPrune + 1 {
		looked[op] = map[api.Errno]int{}
	}
	for range 150 {
		g := great(below)
		for range 300 {
			s := api.Step{Op: below(api.SPrune + 1), A: below(api.MaxRules + 1), B: below(api.MaxRight + 1), C: below(api.MaxRight + 2)}
			switch s.Op {
			case api.SSwap:
				s.A, s.B, s.C = below(g.Names+1), below(g.Names+1), below(2)
			case api.SInline:
				s.C = 0
			case api.SLeft:
				s = left(below(g.Names + 1))
			case api.SPrune:
				s = prune()
			}
			e, h := api.ErrForm, api.Grammar{}
			if isOne(g, s) {
				e, h = api.OK, byWords(g, s)
			}
			if e == api.OK && !gram.May(h) {
				e, h = api.ErrSize, api.Grammar{}
			}
			if got, is := step.Do(g, s); is != e || !same(got, h) {
				t.Fatalf("%s: %v: %s, the error %v, not %s, %v", told(g), s, told(got), is, told(h), e)
			}
			looked[s.Op][e]++
		}
	}
	for op := api.SSwap; op <= api.SPrune; op++ {
		if looked[op][api.OK] < 100 || op != api.SPrune && looked[op][api.ErrForm] < 100 {
			t.Error("too few steps were looked at:", looked)
		}
	}
	for _, op := range []int{api.SExtract, api.SInline, api.SLeft} {
		if looked[op][api.ErrSize] < 100 {
			t.Error("too few steps of which too much comes were looked at:", looked)
		}
	}
}
