package recog_test

import (
	"math"
	"slices"
	"testing"

	"pollarding/api"
	"pollarding/recog"
)

// full is at all limits of A1 at once.
func full() api.Grammar {
	g := tower(api.MaxTerms)
	for n := range api.MaxTerms {
		g.Rules = append(g.Rules, rule(api.MaxNames-1, term(n)))
	}
	for len(g.Rules) < api.MaxRules-1 {
		g.Rules = append(g.Rules, rule(api.MaxNames-1, manySyms(api.MaxRight, name(0))...))
	}
	return g
}

// E1, at all limits at once: MaxTokens tokens, and one fewer. (Where the name 0 may be the last one, what it yields of so few tokens is one of them, and seven more each time that one becomes eight.)
func TestFull(t *testing.T) {
	var tokens []int
	for i := range api.MaxTokens {
		tokens = append(tokens, i%api.MaxTerms)
	}
	last := api.MaxNames - 1
	for _, c := range []struct {
		what       string
		last       api.Rule
		has, fewer bool
	}{
		{"nothing", rule(last), true, true},
		{"as many as there may be", rule(last, manySyms(api.MaxRight, name(0))...), false, false},
		{"the name 0 the last one", rule(0, name(last)), false, true},
		{"the name 0 the last one, and itself", rule(0, name(last), name(0)), false, false},
	} {
		g := full()
		g.Rules = append(g.Rules, c.last)
		if len(g.Rules) != api.MaxRules {
			t.Fatal(len(g.Rules))
		}
		if has, fewer := asked(t, g, tokens), asked(t, g, tokens[1:]); has != c.has || fewer != c.fewer {
			t.Errorf("%s: %v %v, not %v %v", c.what, has, fewer, c.has, c.fewer)
		}
	}
}

// E1, at each limit of A1 alone.
func TestAtLimits(t *testing.T) {
	last := api.MaxNames - 1
	rules := slices.Clip(slices.Repeat([]api.Rule{rule(0, term(0), term(0))}, api.MaxRules-1))
	wantHas(t, []hasCase{
		{"terms", with(api.MaxTerms, 1, rule(0, term(7), term(0), term(7))), 3, "707"},
		{"names", with(2, api.MaxNames, rule(0, name(last), term(0)), rule(last, term(1))), 3, "10"},
		{"rules, the last one of which has more", with(2, 1, append(rules, rule(0, term(1)))...), 3, "00 1"},
		{"rules, the last one of which is another name's", with(2, 2, append(rules, rule(1, term(1)))...), 3, "00"},
		{"rules, the last one of which has none", with(2, 2, append(rules, rule(0, name(1)))...), 3, "00"},
		{"a Right of terms", with(1, 1, rule(0, manySyms(api.MaxRight, term(0))...)), 10, "00000000"},
		{"a Right whose last term is another", with(2, 1, rule(0, append(manySyms(api.MaxRight-1, term(0)), term(1))...)), 9, "00000001"},
		{"a Right of names", with(1, 2, rule(0, manySyms(api.MaxRight, name(1))...), rule(1, term(0))), 10, "00000000"},
		{"a Right of names that may yield nothing", with(1, 2,
			rule(0, append(manySyms(api.MaxRight-1, name(1)), term(0))...), rule(1), rule(1, term(0), term(0), term(0)),
		), 8, "0 0000 0000000"},
		{"a Right whose last name has none", with(1, 3,
			rule(0, append(manySyms(api.MaxRight-1, name(1)), name(2))...), rule(1),
		), 3, ""},
	})
}

// E1: what the last name becomes goes through all the others, in whichever order the rules stand.
func TestLongWays(t *testing.T) {
	g := with(2, api.MaxNames)
	for n := range api.MaxNames - 1 {
		g.Rules = append(g.Rules, rule(n, name(n+1)))
	}
	g.Rules = append(g.Rules, rule(api.MaxNames-1, term(1), name(0)), rule(api.MaxNames-1, term(0)))
	wantHas(t, []hasCase{{"from the first to the last, and round again", g, 5, "0 10 110 1110 11110"}})
}

// all has all tokens of its terms, so that whatever is refused is refused for no other reason.
func all(terms int) api.Grammar {
	g := with(terms, 1, rule(0))
	for n := range terms {
		g.Rules = append(g.Rules, rule(0, name(0), term(n)))
	}
	return g
}

func wantError(t *testing.T, what string, g api.Grammar, tokens []int, want api.Errno) {
	t.Helper()
	if has, e := recog.Has(g, tokens); e != want || has {
		t.Errorf("%s, of %v: %v %v, not the error %v and nothing else", what, tokens, has, e, want)
	}
}

// E1 and P2: grammars that may not be, by each of A1's words; whatever the tokens are, that is told first.
func TestErrForm(t *testing.T) {
	nothing, good := rule(0), rule(0, term(0), name(0))
	for what, g := range map[string]api.Grammar{
		"nothing at all":               {},
		"terms below 0":                with(-1, 1, nothing),
		"terms beyond the limit":       with(api.MaxTerms+1, 1, good, nothing),
		"least terms":                  with(math.MinInt, 1, nothing),
		"greatest terms":               with(math.MaxInt, 1, good, nothing),
		"no names":                     with(1, 0),
		"names below 0":                with(1, -1),
		"names beyond the limit":       with(1, api.MaxNames+1, good, nothing),
		"least names":                  with(1, math.MinInt),
		"greatest names":               with(1, math.MaxInt, good, nothing),
		"rules beyond the limit":       with(1, 1, append(slices.Repeat([]api.Rule{good}, api.MaxRules), nothing)...),
		"Left below 0":                 with(1, 2, good, nothing, rule(-1)),
		"Left beyond the names":        with(1, 2, good, nothing, rule(2)),
		"least Left":                   with(1, 2, good, nothing, rule(math.MinInt)),
		"greatest Left":                with(1, 2, good, nothing, rule(math.MaxInt)),
		"Right beyond the limit":       with(1, 1, good, nothing, rule(0, manySyms(api.MaxRight+1, term(0))...)),
		"names in Right likewise":      with(1, 1, good, nothing, rule(0, manySyms(api.MaxRight+1, name(0))...)),
		"a term below 0":               with(1, 1, good, nothing, rule(0, term(0), term(-1))),
		"the end as a term":            with(1, 1, good, nothing, rule(0, term(0), term(1))),
		"least term":                   with(1, 1, good, nothing, rule(0, term(math.MinInt))),
		"greatest term":                with(1, 1, good, nothing, rule(0, term(math.MaxInt))),
		"a term without terms":         with(0, 1, nothing, rule(0, term(0))),
		"a name below 0":               with(1, 1, good, nothing, rule(0, name(0), name(-1))),
		"a name beyond the names":      with(4, 1, good, nothing, rule(0, name(0), name(1))),
		"least name":                   with(1, 1, rule(0, name(math.MinInt)), good, nothing),
		"greatest name":                with(1, 1, rule(0, name(math.MaxInt)), good, nothing),
		"wrong where it is never read": with(1, 2, good, nothing, rule(1, name(1), term(0), term(9))),
	} {
		for _, tokens := range [][]int{
			nil, {0}, many(api.MaxTokens, 0), // nothing else is wrong, but where there are no terms
			many(api.MaxTokens+1, 0), many(1000, 0), // too many
			{-1}, {0, 8}, {math.MaxInt}, {math.MinInt, 0}, // beyond the terms
			many(api.MaxTokens+1, -1), many(api.MaxTokens+1, 8), // both
		} {
			wantError(t, what, g, tokens, api.ErrForm)
		}
	}
}

// E1 and P2: more than MaxTokens tokens; whether they are terms is not asked any more.
func TestErrSize(t *testing.T) {
	for _, g := range []api.Grammar{all(2), all(0), all(api.MaxTerms), with(2, 1), with(0, 1), sums()} {
		for _, more := range []int{1, 2, 70, 100000} {
			for _, n := range []int{0, 1, 2, -1, 8, math.MaxInt, math.MinInt} {
				wantError(t, "too many", g, many(api.MaxTokens+more, n), api.ErrSize)
			}
			wantError(t, "too many, the last one below 0", g, append(many(api.MaxTokens, 0), many(more, -1)...), api.ErrSize)
			wantError(t, "too many, the first one below 0", g, append([]int{-1}, many(api.MaxTokens+more-1, 0)...), api.ErrSize)
		}
	}
	for n := range api.MaxTokens + 1 {
		if !asked(t, all(2), many(n, 1)) {
			t.Errorf("%d tokens are not too many, and are had", n)
		}
	}
}

// E1 and P2: tokens below 0, at Terms, and beyond, at each place.
func TestErrRange(t *testing.T) {
	for terms := range api.MaxTerms + 1 {
		for _, wrong := range []int{-1, -2, terms, terms + 1, api.MaxTerms, math.MaxInt, math.MinInt, 256, -256} {
			for _, g := range []api.Grammar{all(terms), with(terms, 1), with(terms, api.MaxNames, rule(0))} {
				wantError(t, "one alone", g, []int{wrong}, api.ErrRange)
				wantError(t, "all of them", g, many(api.MaxTokens, wrong), api.ErrRange)
				if terms == 0 {
					continue
				}
				for i := range api.MaxTokens {
					tokens := many(api.MaxTokens, terms-1)
					tokens[i] = wrong
					wantError(t, "one among others", g, tokens, api.ErrRange)
				}
			}
		}
		for n := range terms {
			if !asked(t, all(terms), []int{n}) || asked(t, with(terms, 1, rule(0)), []int{n}) {
				t.Errorf("the token %d of %d terms is not told as it is", n, terms)
			}
		}
	}
}
