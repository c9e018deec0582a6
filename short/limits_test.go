package short_test

import (
	"math"
	"slices"
	"testing"

	"pollarding/api"
	"pollarding/short"
)

// full is at all limits of A1 at once: each name becomes the next one, as often as a Right holds it, and the last one a term, or what ends says.
func full(ends ...api.Sym) api.Grammar {
	last := api.MaxNames - 1
	g := with(api.MaxTerms, api.MaxNames)
	for n := range last {
		g.Rules = append(g.Rules, rule(n, manySyms(api.MaxRight, name(n+1))...))
	}
	for i := range api.MaxTerms {
		g.Rules = append(g.Rules, rule(last, term(i)))
	}
	for len(g.Rules) < api.MaxRules {
		g.Rules = append(g.Rules, rule(last, ends...))
	}
	return g
}

// D1, at all limits at once.
func TestFull(t *testing.T) {
	all := []int{most, most, 134217728, 16777216, 2097152, 262144, 32768, 4096, 512, 64, 8, 1}
	never := full()
	for i := api.MaxNames - 1; i < api.MaxRules; i++ {
		never.Rules[i] = rule(api.MaxNames-1, append(tokens(api.MaxRight-1), name(0))...)
	}
	wantTold(t, []toldCase{
		{"the last one a term, or terms", full(tokens(api.MaxRight)...), all},
		{"the last one a term, or the first one", full(manySyms(api.MaxRight, name(0))...), all},
		{"the last one a term, or nothing", full(), make([]int, api.MaxNames)},
		{"the last one the first one, and nothing else", never, slices.Repeat([]int{-1}, api.MaxNames)},
	})
}

// D1, at each limit of A1 alone.
func TestAtLimits(t *testing.T) {
	var rules []api.Rule
	for range api.MaxRules - 1 {
		rules = append(rules, rule(0, tokens(5)...))
	}
	rules = slices.Clip(rules)
	last := api.MaxNames - 1
	lone := slices.Repeat([]int{-1}, api.MaxNames)
	lone[0], lone[last] = 3, 2
	wantTold(t, []toldCase{
		{"terms", with(api.MaxTerms, 1, rule(0, term(api.MaxTerms-1), term(0), term(api.MaxTerms-1))), []int{3}},
		{"names", with(1, api.MaxNames, rule(0, name(last), term(0)), rule(last, tokens(2)...)), lone},
		{"rules, the last one of which yields fewer", with(1, 1, append(rules, rule(0, tokens(4)...))...), []int{4}},
		{"rules, the last one of which yields more", with(1, 1, append(rules, rule(0, tokens(6)...))...), []int{5}},
		{"rules, the last one of which has none", with(1, 2, append(rules, rule(0, name(1)))...), []int{5, -1}},
		{"rules, the last one of which is another name's", with(1, 2, append(rules, rule(1))...), []int{5, 0}},
		{"a Right of terms", with(1, 1, rule(0, tokens(api.MaxRight)...)), []int{api.MaxRight}},
		{"a Right of names", with(1, 2, rule(0, manySyms(api.MaxRight, name(1))...), rule(1, tokens(3)...)), []int{3 * api.MaxRight, 3}},
		{"a Right whose last symbol is a name", with(1, 2,
			rule(0, append(tokens(api.MaxRight-1), name(1))...), rule(1, tokens(3)...),
		), []int{api.MaxRight + 2, 3}},
		{"a Right whose last name has none", with(1, 3,
			rule(0, append(manySyms(api.MaxRight-1, name(1)), name(2))...), rule(1),
		), []int{-1, 0, -1}},
	})
}

// D1: what holds of the last name goes through all the others, in whichever order the rules stand.
func TestLongWays(t *testing.T) {
	last := api.MaxNames - 1
	up, down := with(1, api.MaxNames), with(1, api.MaxNames)
	var wantUp, wantDown []int
	for n := range last {
		up.Rules = append(up.Rules, rule(n, name(n+1), term(0)), rule(n, manySyms(8, name(n+1))...))
		wantUp = append(wantUp, 13-n)
		down.Rules = append(down.Rules, rule(n+1, name(n), term(0)), rule(n+1, manySyms(8, name(n))...))
		wantDown = append(wantDown, 2+n)
	}
	up.Rules = append(up.Rules, rule(last, tokens(2)...))
	down.Rules = append(down.Rules, rule(0, tokens(2)...))
	wantTold(t, []toldCase{
		{"from the last to the first", up, append(wantUp, 2)},
		{"from the first to the last", down, append(wantDown, 13)},
	})
}

// D1: what was told already is told anew, where the last name yields fewer by a way through all the others.
func TestLongWaysLate(t *testing.T) {
	last := api.MaxNames - 1
	g := with(1, api.MaxNames)
	for n := range last {
		g.Rules = append(g.Rules, rule(n, tokens(8)...), rule(n, name(n+1)))
	}
	g.Rules = append(g.Rules, rule(last, term(0)))
	wantTold(t, []toldCase{{"fewer, from the last name on", g, slices.Repeat([]int{1}, api.MaxNames)}})
}

// D1 and P2: grammars that may not be, by each of A1's words.
func TestErrForm(t *testing.T) {
	good := rule(0, term(0), term(0))
	var rules []api.Rule
	for range api.MaxRules + 1 {
		rules = append(rules, good)
	}
	for what, g := range map[string]api.Grammar{
		"nothing at all":               {},
		"terms below 0":                with(-1, 1),
		"terms beyond the limit":       with(api.MaxTerms+1, 1, good, rule(0)),
		"least terms":                  with(math.MinInt, 1),
		"greatest terms":               with(math.MaxInt, 1, good),
		"no names":                     with(1, 0),
		"names below 0":                with(1, -1),
		"names beyond the limit":       with(1, api.MaxNames+1, good, rule(0)),
		"least names":                  with(1, math.MinInt),
		"greatest names":               with(1, math.MaxInt, good),
		"rules beyond the limit":       with(1, 1, rules...),
		"Left below 0":                 with(1, 2, good, rule(-1)),
		"Left beyond the names":        with(1, 2, good, rule(2)),
		"least Left":                   with(1, 2, good, rule(math.MinInt)),
		"greatest Left":                with(1, 2, good, rule(math.MaxInt)),
		"Right beyond the limit":       with(1, 1, rule(0), rule(0, tokens(api.MaxRight+1)...)),
		"names in Right likewise":      with(1, 1, rule(0), rule(0, manySyms(api.MaxRight+1, name(0))...)),
		"a term below 0":               with(1, 1, good, rule(0, term(0), term(-1))),
		"the end as a term":            with(1, 1, good, rule(0, term(0), term(1))),
		"least term":                   with(1, 1, rule(0), rule(0, term(math.MinInt))),
		"greatest term":                with(1, 1, rule(0), rule(0, term(math.MaxInt))),
		"a term without terms":         with(0, 1, rule(0), rule(0, term(0))),
		"a name below 0":               with(1, 1, good, rule(0, name(0), name(-1))),
		"a name beyond the names":      with(4, 1, good, rule(0, name(0), name(1))),
		"least name":                   with(1, 1, rule(0, name(math.MinInt)), good),
		"greatest name":                with(1, 1, rule(0, name(math.MaxInt)), good),
		"wrong where it is never read": with(1, 2, rule(0), rule(1, name(1), term(0), term(9))),
	} {
		if got, e := short.Of(g); e != api.ErrForm || len(got) > 0 {
			t.Errorf("%s: %v %v, not ErrForm and nothing else", what, got, e)
		}
	}
}
