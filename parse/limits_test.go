package parse_test

import (
	"math"
	"slices"
	"testing"

	"pollarding/api"
	"pollarding/gram"
)

// nothings has a rule of the name 0 that begins with so many names, each of which takes 57 rules to yield nothing; behind them come other symbols.
func nothings(n int, behind ...api.Sym) api.Grammar {
	return with(2, 7,
		rule(0, append(manySyms(n, name(1)), behind...)...), // 0
		rule(1, manySyms(8, name(2))...),                    // 1
		rule(2, manySyms(6, name(3))...),                    // 2
		rule(3),                                             // 3
		rule(4, term(1)),                                    // 4
		rule(5, term(1), name(6), term(0)),                  // 5
		rule(6),                                             // 6
	)
}

// down is the derivation of a name that takes the first rule of each name.
func down(g api.Grammar, n int) []int {
	i := slices.IndexFunc(g.Rules, func(r api.Rule) bool { return r.Left == n })
	d := []int{i}
	for _, s := range g.Rules[i].Right {
		if !s.Term {
			d = append(d, down(g, s.N)...)
		}
	}
	return d
}

// G2 and G3: derivations of fewer rules than MaxSteps, of just so many, and of one more.
func TestMaxSteps(t *testing.T) {
	for _, c := range []struct {
		g     api.Grammar
		steps int
	}{
		{nothings(6, term(1)), api.MaxSteps - 57},
		{nothings(6, name(4), term(0)), api.MaxSteps - 56},
		{nothings(7, term(1)), api.MaxSteps},
		{nothings(7), api.MaxSteps},
		{nothings(7, name(4)), api.MaxSteps + 1},
		{nothings(7, name(6)), api.MaxSteps + 1},
		{nothings(7, name(5)), api.MaxSteps + 2},
		{nothings(7, name(1)), api.MaxSteps + 57},
		{nothings(8), api.MaxSteps + 57},
	} {
		d := down(c.g, 0)
		tokens := yieldOf(c.g, 0)
		if yield, ok := gram.Yield(c.g, d); len(d) != c.steps || ok != (c.steps <= api.MaxSteps) || ok && !slices.Equal(yield, tokens) {
			t.Fatal("not the derivation that is meant:", len(d), c.steps, yield, tokens, ok)
		}
		if c.steps > api.MaxSteps {
			wantError(t, "too many rules", c.g, tokens, api.ErrSize)
			continue
		}
		wantIs(t, "so many rules", c.g, tokens, d)
	}
}

// yieldOf are the terms of the derivation that down answers, however long it is.
func yieldOf(g api.Grammar, n int) []int {
	i := slices.IndexFunc(g.Rules, func(r api.Rule) bool { return r.Left == n })
	var out []int
	for _, s := range g.Rules[i].Right {
		if s.Term {
			out = append(out, s.N)
		} else {
			out = append(out, yieldOf(g, s.N)...)
		}
	}
	return out
}

// G2: where tokens are not done, it is told how many were read while no more than MaxSteps rules were reduced, and ErrSize behind that.
func TestMaxStepsNotDone(t *testing.T) {
	g := nothings(7, name(5))
	wantAll(t, "399 rules, and one more behind the first token", g, []parseCase{
		{nil, "at 0"}, {[]int{0}, "at 0"}, {[]int{1}, "at 1"}, {[]int{1, 1}, "at 1"}, {[]int{1, 0, 0}, "at 2"}, {[]int{1, 0, 1}, "at 2"},
	})
	g.Rules[6] = rule(6, name(3))
	wantAll(t, "399 rules, and two more behind the first token", g, []parseCase{
		{nil, "at 0"}, {[]int{1}, "at 1"}, {[]int{1, 1}, "at 1"},
		{[]int{1, 0, 0}, "bad 1"}, {[]int{1, 0, 1}, "bad 1"}, {[]int{1, 0}, "bad 1"},
	})
}

// padded has, behind each term, a name that takes 73 rules to yield nothing.
func padded() api.Grammar {
	return with(2, 4,
		rule(0, term(0), name(1), name(0)), // 0
		rule(0),                            // 1
		rule(1, manySyms(8, name(2))...),   // 2
		rule(2, manySyms(8, name(3))...),   // 3
		rule(3),                            // 4
	)
}

// G2 and G3: tokens with a derivation of at most MaxSteps rules, more of them, and such as end wrong.
func TestPadded(t *testing.T) {
	g := padded()
	pad := append([]int{0}, down(g, 1)...)
	for n := range api.MaxTokens + 1 {
		d := append(slices.Repeat(pad, n), 1)
		if n <= 5 {
			wantIs(t, "padded", g, many(n, 0), d)
		} else {
			wantError(t, "padded", g, many(n, 0), api.ErrSize)
		}
		if n == api.MaxTokens {
			continue
		}
		// Behind the last 0 nothing is reduced, if a 1 follows: so up to six are read.
		if n <= 6 {
			want(t, "padded, and wrong", g, append(many(n, 0), 1), told(nil, n, api.OK))
		} else {
			wantError(t, "padded, and wrong", g, append(many(n, 0), 1), api.ErrSize)
		}
	}
}

// G2 and P1: each derivation has far more rules than a program could go through: some 10000000000.
func TestTower(t *testing.T) {
	last := api.MaxNames - 1
	g := with(2, api.MaxNames)
	for n := range last {
		g.Rules = append(g.Rules, rule(n, manySyms(api.MaxRight, name(n+1))...))
	}
	nothing, ones := copied(g), copied(g)
	nothing.Rules = append(nothing.Rules, rule(last))
	ones.Rules = append(ones.Rules, rule(last, term(1)))
	wantAll(t, "nothing, very often", nothing, []parseCase{{nil, "bad 1"}, {[]int{0}, "at 0"}, {[]int{1, 1}, "at 0"}})
	for n := range api.MaxTokens + 1 {
		want(t, "a term, very often", ones, many(n, 1), told(nil, n, api.OK))
	}
	wantAll(t, "never ended", g, []parseCase{{nil, "at 0"}, {[]int{1}, "at 0"}})
}

// tree has rules that begin with two terms, no two with the same ones, and go on with others: of the first 20 as many as there may be, of the last one so many that there are length symbols in all. It has 144+length states: there is one of each beginning of a rule (eight rules have the first of it as one), the state 0, and that of the rule above.
func tree(length int, other api.Sym) api.Grammar {
	g := with(api.MaxTerms, 2)
	for i := range 21 {
		n := api.MaxRight
		if i == 20 {
			n = length
		}
		right := append([]api.Sym{term(i / 8), term(i % 8)}, manySyms(n-2, other)...)
		g.Rules = append(g.Rules, rule(0, right...))
	}
	return g
}

// G1: tables of just MaxStates states, and of more; a token that is wrong is told behind that, and a clash, too.
func TestMaxStates(t *testing.T) {
	for length := 2; length <= 6; length++ {
		g := tree(length, term(5))
		wantIs(t, "the last rule", g, append([]int{2, 4}, many(length-2, 5)...), []int{20})
		wantIs(t, "the first rule", g, append([]int{0, 0}, many(6, 5)...), []int{0})
		want(t, "none", g, append([]int{2, 4}, many(length-1, 5)...), told(nil, length, api.OK))
		wantError(t, "a token that is wrong", g, []int{2, 8}, api.ErrRange)
	}
	for length := 7; length <= api.MaxRight; length++ {
		for _, other := range []api.Sym{term(5), name(1)} {
			g := tree(length, other)
			clash := copied(g)
			clash.Rules = append(clash.Rules, rule(1), rule(1), g.Rules[0])
			for _, tokens := range [][]int{
				nil, {0}, append([]int{2, 4}, many(length-2, 5)...), many(api.MaxTokens, 0), many(api.MaxTokens+1, 0),
				{-1}, {0, 8}, {math.MaxInt}, many(api.MaxTokens+1, -1),
			} {
				wantError(t, "too many states", g, tokens, api.ErrSize)
				wantError(t, "too many states, and a clash", clash, tokens, api.ErrSize)
			}
		}
	}
}

// all has all lists of tokens.
func all(terms int) api.Grammar {
	g := with(terms, 1, rule(0))
	for n := range terms {
		g.Rules = append(g.Rules, rule(0, term(n), name(0)))
	}
	return g
}

// clash is a grammar with one.
func clash(terms int) api.Grammar {
	return with(terms, 1, rule(0), rule(0))
}

// G1: more than MaxTokens tokens, whatever they are, also where there is a clash.
func TestMaxTokens(t *testing.T) {
	for _, g := range []api.Grammar{all(2), all(0), all(api.MaxTerms), with(2, 1), clash(2), clash(0), padded(), sums()} {
		for _, more := range []int{1, 2, 70, 100000} {
			for _, n := range []int{0, 1, 2, -1, 8, math.MaxInt, math.MinInt} {
				wantError(t, "too many", g, many(api.MaxTokens+more, n), api.ErrSize)
			}
			wantError(t, "too many, the last one below 0", g, append(many(api.MaxTokens, 0), many(more, -1)...), api.ErrSize)
			wantError(t, "too many, the first one below 0", g, append([]int{-1}, many(api.MaxTokens+more-1, 0)...), api.ErrSize)
		}
	}
	for n := range api.MaxTokens + 1 {
		wantIs(t, "not too many", all(2), many(n, 1), append(many(n, 2), 0))
	}
	for n := range api.MaxTokens {
		want(t, "not too many, and the last one is not read", chapterOf(2), append(many(n, 0), 1), told(nil, n, api.OK))
	}
}

// chapterOf is the chapter's grammar with more terms, none of which is in a rule.
func chapterOf(terms int) api.Grammar {
	g := chapter()
	g.Terms = terms
	return g
}

// G1: tokens below 0, at Terms, and beyond, at each place, also where there is a clash, and where the tokens ahead are not done.
func TestErrRange(t *testing.T) {
	for terms := range api.MaxTerms + 1 {
		for _, wrong := range []int{-1, -2, terms, terms + 1, api.MaxTerms, math.MaxInt, math.MinInt, 256, -256} {
			for _, g := range []api.Grammar{all(terms), with(terms, 1), clash(terms)} {
				wantError(t, "one alone", g, []int{wrong}, api.ErrRange)
				wantError(t, "all of them", g, many(api.MaxTokens, wrong), api.ErrRange)
				if terms == 0 {
					continue
				}
				for i := range api.MaxTokens {
					tokens := many(api.MaxTokens, terms-1)
					tokens[i] = wrong
					wantError(t, "one among others", g, tokens, api.ErrRange)
				}
			}
		}
		for n := range terms {
			wantIs(t, "a token", all(terms), []int{n}, []int{n + 1, 0})
			want(t, "a token", with(terms, 1), []int{n}, "at 0")
			wantError(t, "a token", clash(terms), []int{n}, api.ErrClash)
		}
	}
	wantError(t, "behind more than MaxSteps rules", padded(), append(many(29, 0), 2), api.ErrRange)
}

// G1: a clash is told ahead of what comes of running the table.
func TestErrClashFirst(t *testing.T) {
	g := padded()
	g.Rules = append(g.Rules, rule(3))
	for n := range api.MaxTokens + 1 {
		wantError(t, "padded, with a clash", g, many(n, 0), api.ErrClash)
		wantError(t, "padded, with a clash", g, many(n, 1), api.ErrClash)
	}
}

// G1, at each limit of A1 alone.
func TestAtLimits(t *testing.T) {
	last := api.MaxNames - 1
	rules := slices.Repeat([]api.Rule{rule(1, term(0))}, api.MaxRules-2)
	ring := with(api.MaxTerms, api.MaxNames)
	for n := range api.MaxNames {
		ring.Rules = append(ring.Rules, rule(n, term(n%api.MaxTerms), name((n+1)%api.MaxNames)))
	}
	ring.Rules = append(ring.Rules, rule(last))
	wantAll(t, "terms", with(api.MaxTerms, 1, rule(0, term(7), term(0), term(7))), []parseCase{
		{[]int{7, 0, 7}, "is 0"}, {[]int{7, 0, 6}, "at 2"}, {[]int{6}, "at 0"}, {[]int{7, 0, 7, 7}, "at 3"}, {[]int{8}, "bad 3"},
	})
	wantAll(t, "names", with(2, api.MaxNames, rule(last, term(1)), rule(0, name(last), term(0))), []parseCase{
		{[]int{1, 0}, "is 1 0"}, {[]int{1}, "at 1"}, {[]int{0}, "at 0"},
	})
	wantAll(t, "names, each in the next one", ring, []parseCase{
		{[]int{0, 1, 2, 3, 4, 5, 6, 7, 0, 1, 2}, "is 0 1 2 3 4 5 6 7 8 9 10 12"},
		{[]int{0, 1, 2, 3, 4, 5, 6, 7, 0, 1, 2, 3, 0}, "at 13"},
		{[]int{0, 1, 2, 3, 4, 5, 6, 7, 0, 1, 2, 0}, "at 11"},
	})
	wantAll(t, "rules", with(2, 2, append(rules, rule(0, term(1)), rule(0, term(0), name(0)))...), []parseCase{
		{[]int{1}, "is 38"}, {[]int{0, 0, 1}, "is 39 39 38"}, {[]int{0, 0}, "at 2"},
	})
	wantAll(t, "a Right of terms", with(2, 1, rule(0, append(manySyms(7, term(0)), term(1))...)), []parseCase{
		{[]int{0, 0, 0, 0, 0, 0, 0, 1}, "is 0"}, {many(8, 0), "at 7"}, {many(7, 0), "at 7"}, {[]int{0, 0, 0, 0, 0, 0, 0, 1, 1}, "at 8"},
	})
	wantAll(t, "a Right of names", with(1, 2, rule(0, manySyms(8, name(1))...), rule(1, term(0))), []parseCase{
		{many(8, 0), "is 0 1 1 1 1 1 1 1 1"}, {many(7, 0), "at 7"}, {many(9, 0), "at 8"},
	})
}

// P1, P2 and G1: grammars that may not be, by each of A1's words, whatever the tokens are.
func TestErrForm(t *testing.T) {
	nothing, good := rule(0), rule(0, term(0), name(0))
	for what, g := range map[string]api.Grammar{
		"nothing at all":                  {},
		"terms below 0":                   with(-1, 1, nothing),
		"terms beyond the limit":          with(api.MaxTerms+1, 1, good, nothing),
		"least terms":                     with(math.MinInt, 1, nothing),
		"greatest terms":                  with(math.MaxInt, 1, good, nothing),
		"no names":                        with(1, 0),
		"names below 0":                   with(1, -1),
		"names beyond the limit":          with(1, api.MaxNames+1, good, nothing),
		"least names":                     with(1, math.MinInt),
		"greatest names":                  with(1, math.MaxInt, good, nothing),
		"rules beyond the limit":          with(1, 2, append(slices.Repeat([]api.Rule{rule(1)}, api.MaxRules-1), good, nothing)...),
		"Left below 0":                    with(1, 2, good, nothing, rule(-1)),
		"Left beyond the names":           with(1, 2, good, nothing, rule(2)),
		"greatest Left":                   with(1, 2, good, nothing, rule(math.MaxInt)),
		"Right beyond the limit":          with(1, 2, good, nothing, rule(1, manySyms(api.MaxRight+1, term(0))...)),
		"a Right of far too many states":  with(1, 1, rule(0, manySyms(1000, term(0))...)),
		"a term below 0":                  with(1, 1, good, nothing, rule(0, term(0), term(-1))),
		"the end as a term":               with(1, 1, good, nothing, rule(0, term(0), term(1))),
		"a term without terms":            with(0, 1, nothing, rule(0, term(0))),
		"a name below 0":                  with(1, 1, good, nothing, rule(0, name(0), name(-1))),
		"a name beyond the names":         with(4, 1, good, nothing, rule(0, name(0), name(1))),
		"a clash, too":                    with(1, 1, good, good, nothing, rule(1)),
		"wrong where nothing comes to it": with(1, 2, good, nothing, rule(1, name(1), term(0), term(9))),
	} {
		for _, tokens := range [][]int{
			nil, {0}, {0, 0}, many(api.MaxTokens, 0), many(api.MaxTokens+1, 0), many(1000, 0),
			{-1}, {0, 8}, {math.MaxInt}, {math.MinInt, 0}, many(api.MaxTokens+1, -1),
		} {
			wantError(t, what, g, tokens, api.ErrForm)
		}
	}
}
