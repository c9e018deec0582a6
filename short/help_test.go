package short_test

import (
	"slices"
	"testing"

	"pollarding/api"
	"pollarding/short"
)

func term(n int) api.Sym { return api.Sym{Term: true, N: n} }

func name(n int) api.Sym { return api.Sym{N: n} }

func rule(left int, right ...api.Sym) api.Rule {
	return api.Rule{Left: left, Right: right}
}

func with(terms, names int, rules ...api.Rule) api.Grammar {
	return api.Grammar{Terms: terms, Names: names, Rules: rules}
}

func manySyms(n int, s api.Sym) []api.Sym {
	var out []api.Sym
	for range n {
		out = append(out, s)
	}
	return out
}

// tokens is a Right of that many terms.
func tokens(n int) []api.Sym { return manySyms(n, term(0)) }

// asked asks of a grammar that may be, and looks at the length of what is answered.
func asked(t *testing.T, g api.Grammar) []int {
	t.Helper()
	got, e := short.Of(g)
	if e != api.OK || len(got) != g.Names {
		t.Fatalf("%v: not one number of each name: %v %v", g, got, e)
	}
	return got
}

type toldCase struct {
	what string
	g    api.Grammar
	want []int
}

// wantTold asks of each grammar, and of the same with its rules in reverse: their order is of no account.
func wantTold(t *testing.T, cases []toldCase) {
	t.Helper()
	for _, c := range cases {
		if got := asked(t, c.g); !slices.Equal(got, c.want) {
			t.Errorf("%s: %v, not %v", c.what, got, c.want)
		}
		back := copied(c.g)
		slices.Reverse(back.Rules)
		if got := asked(t, back); !slices.Equal(got, c.want) {
			t.Errorf("%s, rules in reverse: %v, not %v", c.what, got, c.want)
		}
	}
}

func copied(g api.Grammar) api.Grammar {
	out := g
	out.Rules = nil
	for _, r := range g.Rules {
		out.Rules = append(out.Rules, api.Rule{Left: r.Left, Right: slices.Clone(r.Right)})
	}
	return out
}

func same(a, b api.Grammar) bool {
	return a.Terms == b.Terms && a.Names == b.Names && slices.EqualFunc(a.Rules, b.Rules, func(x, y api.Rule) bool {
		return x.Left == y.Left && slices.Equal(x.Right, y.Right)
	})
}

// eachSmall calls do with many small grammars, the same ones each time.
func eachSmall(do func(g api.Grammar)) {
	state := uint32(1)
	below := func(n int) int {
		state = state*1664525 + 1013904223
		return int(state>>16) % n
	}
	for range 6000 {
		g := with(below(4), 1+below(5))
		for range below(10) {
			r := rule(below(g.Names))
			for range below(5) {
				if below(2) == 0 && g.Terms > 0 {
					r.Right = append(r.Right, term(below(g.Terms)))
				} else {
					r.Right = append(r.Right, name(below(g.Names)))
				}
			}
			g.Rules = append(g.Rules, r)
		}
		do(g)
	}
}
