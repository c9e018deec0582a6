package parse_test

import (
	"slices"
	"testing"

	"pollarding/api"
	"pollarding/gram"
	"pollarding/parse"
	"pollarding/recog"
	"pollarding/table"
)

// clashes tells of a grammar that has few states whether its table has a clash.
func clashes(t *testing.T, g api.Grammar) bool {
	t.Helper()
	x, e := table.Of(g)
	if e != api.OK {
		t.Fatalf("Of %v: the error %v", g, e)
	}
	return table.Clashes(x) > 0
}

// eachDerivation calls do with the derivations of the name 0, of at most that many rules.
func eachDerivation(g api.Grammar, longest int, do func(d []int)) {
	var derive func(d []int, open []api.Sym)
	derive = func(d []int, open []api.Sym) {
		for len(open) > 0 && open[0].Term {
			open = open[1:]
		}
		if len(open) == 0 {
			do(d)
			return
		}
		if len(d) == longest {
			return
		}
		for i, r := range g.Rules {
			if r.Left == open[0].N {
				derive(append(d[:len(d):len(d)], i), slices.Concat(r.Right, open[1:]))
			}
		}
	}
	derive(nil, []api.Sym{name(0)})
}

// yielded answers what a derivation yields.
func yielded(t *testing.T, g api.Grammar, d []int) []int {
	t.Helper()
	tokens, ok := gram.Yield(g, d)
	if !ok {
		t.Fatalf("%v: %v is no derivation", g, d)
	}
	return tokens
}

// G3: where nothing clashes, Parse of what a derivation yields is that one; and where something does, no derivation is told.
func TestOneDerivation(t *testing.T) {
	looked, clashed := 0, 0
	eachSmall(func(g api.Grammar) {
		if clashes(t, g) {
			clashed++
			eachDerivation(g, 3, func(d []int) { wantError(t, "a clash", g, yielded(t, g, d), api.ErrClash) })
			return
		}
		eachDerivation(g, 8, func(d []int) {
			tokens := yielded(t, g, d)
			if got, at, e := parse.Parse(g, tokens); e != api.OK || at != -1 || !slices.Equal(got, d) {
				t.Fatalf("%v: Parse of %v: %v %v %v, not %v", g, tokens, got, at, e, d)
			}
			looked++
		})
	})
	if looked < 3000 || clashed < 1000 {
		t.Error("too few were looked at:", looked, clashed)
	}
}

// G2 and G3: of all short lists of tokens those are done, and no others, that the grammar has, and what is answered is a derivation that yields them.
func TestNoOtherOne(t *testing.T) {
	had, hasNot := 0, 0
	eachSmall(func(g api.Grammar) {
		if clashes(t, g) {
			return
		}
		eachTokens(g.Terms, []int{0, 6, 4, 3}[g.Terms], func(tokens []int) {
			d, at, e := parse.Parse(g, tokens)
			has, _ := recog.Has(g, tokens)
			if e != api.OK || has != (at == -1) {
				t.Fatalf("%v: Parse of %v: %v %v %v, and Has tells %v", g, tokens, d, at, e, has)
			}
			if !has {
				hasNot++
				return
			}
			had++
			if yield := yielded(t, g, d); !slices.Equal(yield, tokens) {
				t.Fatalf("%v: Parse of %v is %v, which yields %v", g, tokens, d, yield)
			}
		})
	})
	if had < 1000 || hasNot < 5000 {
		t.Error("too few lists of tokens were looked at:", had, hasNot)
	}
}

// greater are grammars without a clash, by which long lists of tokens are derived.
func greater() map[string]api.Grammar {
	wide := with(api.MaxTerms, api.MaxNames)
	for i := range 3 * api.MaxNames {
		right := manySyms(1+i%api.MaxRight, term(i/api.MaxNames*3))
		right[len(right)/2] = term(i % api.MaxTerms)
		right[0] = term(i / api.MaxNames * 3)
		if len(right) > 1 {
			right[len(right)-1] = name((5*i + 1) % api.MaxNames)
		}
		wide.Rules = append(wide.Rules, rule(i%api.MaxNames, right...))
	}
	for n := range api.MaxRules - len(wide.Rules) {
		wide.Rules = append(wide.Rules, rule(3*n))
	}
	return map[string]api.Grammar{
		"the chapter's":           chapter(),
		"sums":                    sums(),
		"places":                  places(),
		"blanks":                  blanks(),
		"brackets":                with(2, 1, rule(0, term(0), name(0), term(1), name(0)), rule(0)),
		"brackets, at the left":   with(2, 1, rule(0), rule(0, name(0), term(0), name(0), term(1))),
		"the same from both ends": with(3, 1, rule(0, term(0), name(0), term(0)), rule(0, term(1), name(0), term(1)), rule(0, term(2))),
		"lists of lists":          with(3, 2, rule(0, name(0), term(2), name(1)), rule(0, name(1)), rule(1, term(0), name(0), term(1)), rule(1)),
		"at A1's limits":          wide,
	}
}

// someDerivation answers a derivation that yields no more than MaxTokens tokens, by numbers; or none, if it gets too long.
func someDerivation(g api.Grammar, below func(n int) int) []int {
	of := make([][]int, g.Names)
	for i, r := range g.Rules {
		of[r.Left] = append(of[r.Left], i)
	}
	var d []int
	open, tokens := []api.Sym{name(0)}, 0
	for len(open) > 0 {
		next := open[0]
		open = open[1:]
		if next.Term {
			tokens++
			continue
		}
		if tokens > api.MaxTokens || len(d) == api.MaxSteps || len(open) > 100 {
			return nil
		}
		i := of[next.N][below(len(of[next.N]))]
		d = append(d, i)
		open = slices.Concat(g.Rules[i].Right, open)
	}
	if tokens > api.MaxTokens {
		return nil
	}
	return d
}

// G3, on long derivations.
func TestOneLongDerivation(t *testing.T) {
	for what, g := range greater() {
		if clashes(t, g) {
			t.Fatal(what, "has a clash")
		}
		below, looked, longest := numbers(), 0, 0
		for range 3000 {
			d := someDerivation(g, below)
			if len(d) == 0 {
				continue
			}
			tokens := yielded(t, g, d)
			wantIs(t, what, g, tokens, d)
			looked++
			longest = max(longest, len(tokens))
		}
		if looked < 300 || longest < 8 {
			t.Error(what, "too few, or too short, derivations:", looked, longest)
		}
	}
}
