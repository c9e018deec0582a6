package text_test

import (
	"slices"
	"strings"
	"testing"

	"pollarding/api"
	"pollarding/text"
)

func term(n int) api.Sym { return api.Sym{Term: true, N: n} }

func name(n int) api.Sym { return api.Sym{N: n} }

func rule(left int, right ...api.Sym) api.Rule {
	return api.Rule{Left: left, Right: right}
}

func with(terms, names int, rules ...api.Rule) api.Grammar {
	return api.Grammar{Terms: terms, Names: names, Rules: rules}
}

func manyRules(n int) []api.Rule {
	return slices.Repeat([]api.Rule{rule(0)}, n)
}

func manySyms(n int, s api.Sym) []api.Sym {
	return slices.Repeat([]api.Sym{s}, n)
}

// chapter is the grammar of the chapter's example.
func chapter() api.Grammar {
	return with(1, 1, rule(0, term(0), name(0)), rule(0))
}

// chapterText is what the chapter says of it.
const chapterText = "terms 1 names 1\nn0: t0 n0\nn0:\n"

// full is at all limits at once.
func full() api.Grammar {
	g := with(api.MaxTerms, api.MaxNames)
	for range api.MaxRules {
		r := rule(api.MaxNames-1, manySyms(api.MaxRight-1, term(api.MaxTerms-1))...)
		r.Right = append(r.Right, name(api.MaxNames-1))
		g.Rules = append(g.Rules, r)
	}
	return g
}

// lines joins lines, each with its byte 10.
func lines(each ...string) string {
	var out strings.Builder
	for _, l := range each {
		out.WriteString(l + "\n")
	}
	return out.String()
}

// same tells two grammars apart by their fields: no text of the package's own is asked.
func same(a, b api.Grammar) bool {
	return a.Terms == b.Terms && a.Names == b.Names && slices.EqualFunc(a.Rules, b.Rules, func(x, y api.Rule) bool {
		return x.Left == y.Left && slices.Equal(x.Right, y.Right)
	})
}

func copied(g api.Grammar) api.Grammar {
	out := g
	out.Rules = nil
	for _, r := range g.Rules {
		out.Rules = append(out.Rules, api.Rule{Left: r.Left, Right: slices.Clone(r.Right)})
	}
	return out
}

// printed prints a grammar that may be.
func printed(t *testing.T, g api.Grammar) string {
	t.Helper()
	s, e := text.Print(g)
	if e != api.OK {
		t.Fatalf("Print of %v: %q %v", g, s, e)
	}
	return s
}

// parsed parses a text that is a grammar's.
func parsed(t *testing.T, s string) api.Grammar {
	t.Helper()
	g, f := text.Parse(s)
	if f != (api.Fault{}) {
		t.Fatalf("Parse of %q: %v %v", s, g, f)
	}
	return g
}

// wantNoText asks Print of a grammar that may not be.
func wantNoText(t *testing.T, what string, g api.Grammar) {
	t.Helper()
	if s, e := text.Print(g); s != "" || e != api.ErrForm {
		t.Errorf("%s: Print of %v: %q %v", what, g, s, e)
	}
}

// wantFault asks Parse of what is no text.
func wantFault(t *testing.T, what, s string, at int) {
	t.Helper()
	g, f := text.Parse(s)
	if f != (api.Fault{Code: api.ErrForm, At: at}) || !same(g, api.Grammar{}) {
		t.Errorf("%s: Parse of %q: %v %v, not At %d", what, s, g, f, at)
	}
}

// eachSmall calls do with many grammars, the same ones each time.
func eachSmall(do func(g api.Grammar)) {
	state := uint32(1)
	below := func(n int) int {
		state = state*1664525 + 1013904223
		return int(state>>16) % n
	}
	for range 4000 {
		g := with(below(api.MaxTerms+1), 1+below(api.MaxNames))
		for range below(8) {
			r := rule(below(g.Names))
			for range below(api.MaxRight + 1) {
				if below(2) == 0 && g.Terms > 0 {
					r.Right = append(r.Right, term(below(g.Terms)))
				} else {
					r.Right = append(r.Right, name(below(g.Names)))
				}
			}
			g.Rules = append(g.Rules, r)
		}
		do(g)
	}
}
