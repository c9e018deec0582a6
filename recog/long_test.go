package recog_test

import (
	"slices"
	"testing"

	"pollarding/api"
	"pollarding/gram"
)

// down is the derivation of a name that takes the first rule of each name.
func down(g api.Grammar, n int) []int {
	i := slices.IndexFunc(g.Rules, func(r api.Rule) bool { return r.Left == n })
	d := []int{i}
	for _, s := range g.Rules[i].Right {
		if !s.Term {
			d = append(d, down(g, s.N)...)
		}
	}
	return d
}

// E1: the only derivation is of MaxSteps rules, or of one more.
func TestJustMaxSteps(t *testing.T) {
	for _, c := range []struct {
		last  []api.Sym
		steps int
	}{{[]api.Sym{term(1)}, api.MaxSteps}, {[]api.Sym{name(4)}, api.MaxSteps + 1}} {
		g := with(2, 5,
			rule(0, append(manySyms(7, name(1)), c.last...)...),
			rule(1, manySyms(8, name(2))...),
			rule(2, manySyms(6, name(3))...),
			rule(3),
			rule(4, term(1)),
		)
		d := down(g, 0)
		if _, ok := gram.Yield(g, d); len(d) != c.steps || ok != (c.steps <= api.MaxSteps) {
			t.Fatal("no derivation of so many rules:", len(d), c.steps, ok)
		}
		wantHas(t, []hasCase{{"the last symbol, and nothing else", g, 3, "1"}})
	}
}

// padded has, behind each term, a name that takes 73 rules to yield nothing.
func padded() api.Grammar {
	return with(2, 4,
		rule(0, term(0), name(1), name(0)), // 0
		rule(0),                            // 1
		rule(1, manySyms(8, name(2))...),   // 2
		rule(2, manySyms(8, name(3))...),   // 3
		rule(3),                            // 4
	)
}

// paddedSteps is the only derivation of that many tokens.
func paddedSteps(tokens int) []int {
	g := padded()
	pad := slices.Concat([]int{0}, down(g, 1))
	return append(slices.Repeat(pad, tokens), 1)
}

// E1: some tokens are had by a derivation of at most MaxSteps rules, and more of them only by longer ones.
func TestPadded(t *testing.T) {
	g := padded()
	for n := range api.MaxTokens + 1 {
		d := paddedSteps(n)
		yield, ok := gram.Yield(g, d)
		if ok != (len(d) <= api.MaxSteps) || ok && len(yield) != n || ok != (n <= 5) {
			t.Fatal("not the derivation that is meant:", n, len(d), ok)
		}
		tokens := many(n, 0)
		if !asked(t, g, tokens) {
			t.Errorf("%d tokens, by %d rules: not had", n, len(d))
		}
		for i := range tokens {
			other := slices.Clone(tokens)
			other[i] = 1
			if asked(t, g, other) {
				t.Errorf("%v: had", other)
			}
		}
	}
}

// E1: likewise, where the name has rules, and yet no derivation, so that only no tokens at all are had.
func TestPaddedNever(t *testing.T) {
	g := padded()
	g.Rules[4] = rule(3, name(1))
	for n := range api.MaxTokens + 1 {
		if got := asked(t, g, many(n, 0)); got != (n == 0) {
			t.Errorf("%d tokens: %v", n, got)
		}
	}
}

// tower has as many names as may be, each of which becomes the next one, as often as a Right holds it; and the last one becomes what ends say.
func tower(terms int, ends ...[]api.Sym) api.Grammar {
	last := api.MaxNames - 1
	g := with(terms, api.MaxNames)
	for n := range last {
		g.Rules = append(g.Rules, rule(n, manySyms(api.MaxRight, name(n+1))...))
	}
	for _, end := range ends {
		g.Rules = append(g.Rules, rule(last, end...))
	}
	return g
}

// E1: each derivation has far more rules than a program could go through: some 10000000000.
func TestTower(t *testing.T) {
	one := []api.Sym{term(1)}
	wantHas(t, []hasCase{
		{"nothing", tower(2, nil), 4, "-"},
		{"nothing, or a term", tower(2, nil, one), 4, "- 1 11 111 1111"},
		{"nothing, or two terms", tower(2, nil, []api.Sym{term(1), term(0)}), 6, "- 10 1010 101010"},
		{"a term: too many tokens at once", tower(2, one), 4, ""},
		{"the first name: never ended", tower(2, []api.Sym{name(0)}), 3, ""},
		{"the first name, or nothing", tower(2, []api.Sym{name(0)}, nil), 3, "-"},
	})
	for n := range api.MaxTokens + 1 {
		if got := asked(t, tower(2, nil, one), many(n, 1)); !got {
			t.Errorf("%d tokens, where each name may be nothing: not had", n)
		}
		if got := asked(t, tower(2, one), many(n, 1)); got {
			t.Errorf("%d tokens, where each name is at least one: had", n)
		}
		if got := asked(t, tower(2, nil, []api.Sym{term(1), term(1)}), many(n, 1)); got != (n%2 == 0) {
			t.Errorf("%d tokens, by two: %v", n, got)
		}
	}
}

// E1 at MaxTokens tokens, just: there is no derivation of fewer, nor of more.
func TestJustMaxTokens(t *testing.T) {
	g := with(2, 3,
		rule(0, manySyms(6, name(1))...),
		rule(1, manySyms(5, name(2))...),
		rule(2, term(0)), rule(2, term(1)),
	)
	for n := range api.MaxTokens + 1 {
		if got := asked(t, g, many(n, n%2)); got != (n == api.MaxTokens) {
			t.Errorf("%d tokens: %v", n, got)
		}
	}
	if !asked(t, g, slices.Repeat([]int{0, 1, 1}, 10)) {
		t.Error("tokens of both kinds are not had")
	}
}
