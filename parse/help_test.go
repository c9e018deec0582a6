package parse_test

import (
	"fmt"
	"slices"
	"strings"
	"testing"

	"pollarding/api"
	"pollarding/parse"
)

func term(n int) api.Sym { return api.Sym{Term: true, N: n} }

func name(n int) api.Sym { return api.Sym{N: n} }

func rule(left int, right ...api.Sym) api.Rule {
	return api.Rule{Left: left, Right: right}
}

func with(terms, names int, rules ...api.Rule) api.Grammar {
	return api.Grammar{Terms: terms, Names: names, Rules: rules}
}

func manySyms(n int, s api.Sym) []api.Sym {
	return slices.Repeat([]api.Sym{s}, n)
}

func many(n, token int) []int {
	return slices.Repeat([]int{token}, n)
}

// chapter is the grammar of the chapter's example.
func chapter() api.Grammar {
	return with(1, 1, rule(0, term(0), name(0)), rule(0))
}

// told writes what Parse answers: "is" and the derivation, "at" and how many tokens were read, or "bad" and the error; and all of it, if it is none of these.
func told(d []int, at int, e api.Errno) string {
	switch {
	case e == api.OK && at == -1:
		return strings.TrimSpace("is " + strings.Trim(fmt.Sprint(d), "[]"))
	case e == api.OK && at >= 0 && len(d) == 0:
		return fmt.Sprintf("at %d", at)
	case e != api.OK && at == 0 && len(d) == 0:
		return fmt.Sprintf("bad %d", e)
	}
	return fmt.Sprint(d, at, e)
}

// want asks Parse, and holds what it answers against a text of told.
func want(t *testing.T, what string, g api.Grammar, tokens []int, answer string) {
	t.Helper()
	if got := told(parse.Parse(g, tokens)); got != answer {
		t.Errorf("%s: %v: %s, not %s", what, tokens, got, answer)
	}
}

// wantIs asks for a derivation.
func wantIs(t *testing.T, what string, g api.Grammar, tokens, d []int) {
	t.Helper()
	want(t, what, g, tokens, told(d, -1, api.OK))
}

// wantError asks for an error, and that all else is zero (P2).
func wantError(t *testing.T, what string, g api.Grammar, tokens []int, e api.Errno) {
	t.Helper()
	want(t, what, g, tokens, told(nil, 0, e))
}

// eachTokens calls do with all lists of at most that many tokens.
func eachTokens(terms, most int, do func(tokens []int)) {
	var grow func(tokens []int)
	grow = func(tokens []int) {
		do(tokens)
		if len(tokens) == most {
			return
		}
		for n := range terms {
			grow(append(tokens[:len(tokens):len(tokens)], n))
		}
	}
	grow(nil)
}

func copied(g api.Grammar) api.Grammar {
	out := g
	out.Rules = nil
	for _, r := range g.Rules {
		out.Rules = append(out.Rules, api.Rule{Left: r.Left, Right: slices.Clone(r.Right)})
	}
	return out
}

func same(a, b api.Grammar) bool {
	return a.Terms == b.Terms && a.Names == b.Names && slices.EqualFunc(a.Rules, b.Rules, func(x, y api.Rule) bool {
		return x.Left == y.Left && slices.Equal(x.Right, y.Right)
	})
}

// numbers answers a function that answers numbers below n, the same ones each time.
func numbers() func(n int) int {
	state := uint32(1)
	return func(n int) int {
		state = state*1664525 + 1013904223
		return int(state>>16) % n
	}
}

// eachSmall calls do with many small grammars, the same ones each time.
func eachSmall(do func(g api.Grammar)) {
	below := numbers()
	for range 5000 {
		g := with(below(4), 1+below(4))
		for range below(9) {
			r := rule(below(g.Names))
			for range below(4) {
				if below(2) == 0 && g.Terms > 0 {
					r.Right = append(r.Right, term(below(g.Terms)))
				} else {
					r.Right = append(r.Right, name(below(g.Names)))
				}
			}
			g.Rules = append(g.Rules, r)
		}
		do(g)
	}
}
