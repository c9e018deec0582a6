package recog_test

import (
	"slices"
	"strings"
	"testing"

	"pollarding/api"
	"pollarding/recog"
)

func term(n int) api.Sym { return api.Sym{Term: true, N: n} }

func name(n int) api.Sym { return api.Sym{N: n} }

func rule(left int, right ...api.Sym) api.Rule {
	return api.Rule{Left: left, Right: right}
}

func with(terms, names int, rules ...api.Rule) api.Grammar {
	return api.Grammar{Terms: terms, Names: names, Rules: rules}
}

func manySyms(n int, s api.Sym) []api.Sym {
	return slices.Repeat([]api.Sym{s}, n)
}

func many(n, token int) []int {
	return slices.Repeat([]int{token}, n)
}

// written writes tokens as digits; no tokens at all are a dash.
func written(tokens []int) string {
	if len(tokens) == 0 {
		return "-"
	}
	out := ""
	for _, n := range tokens {
		out += string(rune('0' + n))
	}
	return out
}

// read is the other way round.
func read(s string) []int {
	var out []int
	for _, b := range strings.Trim(s, "-") {
		out = append(out, int(b-'0'))
	}
	return out
}

// asked asks of a grammar that may be, with tokens that may be.
func asked(t *testing.T, g api.Grammar, tokens []int) bool {
	t.Helper()
	has, e := recog.Has(g, tokens)
	if e != api.OK {
		t.Fatalf("%v, of %v: the error %v", g, tokens, e)
	}
	return has
}

// eachTokens calls do with all lists of at most that many tokens.
func eachTokens(terms, most int, do func(tokens []int)) {
	var grow func(tokens []int)
	grow = func(tokens []int) {
		do(tokens)
		if len(tokens) == most {
			return
		}
		for n := range terms {
			grow(append(tokens[:len(tokens):len(tokens)], n))
		}
	}
	grow(nil)
}

type hasCase struct {
	what string
	g    api.Grammar
	most int
	has  string // all that it has of at most that many tokens, with blanks between
}

// wantHas asks of all lists of at most so many tokens, and of each grammar with its rules in reverse too: their order is of no account.
func wantHas(t *testing.T, cases []hasCase) {
	t.Helper()
	for _, c := range cases {
		has := strings.Fields(c.has)
		for _, s := range has {
			if n := read(s); len(n) > c.most || written(n) != s {
				t.Fatalf("%s: %s is never asked", c.what, s)
			}
		}
		back := copied(c.g)
		slices.Reverse(back.Rules)
		eachTokens(c.g.Terms, c.most, func(tokens []int) {
			s := written(tokens)
			want := slices.Contains(has, s)
			if got := asked(t, c.g, tokens); got != want {
				t.Errorf("%s: %s: %v, not %v", c.what, s, got, want)
			}
			if got := asked(t, back, tokens); got != want {
				t.Errorf("%s, rules in reverse: %s: %v, not %v", c.what, s, got, want)
			}
		})
	}
}

func copied(g api.Grammar) api.Grammar {
	out := g
	out.Rules = nil
	for _, r := range g.Rules {
		out.Rules = append(out.Rules, api.Rule{Left: r.Left, Right: slices.Clone(r.Right)})
	}
	return out
}

func same(a, b api.Grammar) bool {
	return a.Terms == b.Terms && a.Names == b.Names && slices.EqualFunc(a.Rules, b.Rules, func(x, y api.Rule) bool {
		return x.Left == y.Left && slices.Equal(x.Right, y.Right)
	})
}

// eachSmall calls do with many small grammars, the same ones each time.
func eachSmall(do func(g api.Grammar)) {
	state := uint32(1)
	below := func(n int) int {
		state = state*1664525 + 1013904223
		return int(state>>16) % n
	}
	for range 4000 {
		g := with(below(4), 1+below(4))
		for range below(9) {
			r := rule(below(g.Names))
			for range below(4) {
				if below(2) == 0 && g.Terms > 0 {
					r.Right = append(r.Right, term(below(g.Terms)))
				} else {
					r.Right = append(r.Right, name(below(g.Names)))
				}
			}
			g.Rules = append(g.Rules, r)
		}
		do(g)
	}
}
