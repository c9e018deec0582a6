package reach_test

import (
	"math"
	"slices"
	"strings"
	"testing"

	"pollarding/api"
)

// full is at all limits of A1 at once: each name becomes the next one, as often as a Right holds it, and the last one a term, or nothing.
func full() api.Grammar {
	last := api.MaxNames - 1
	g := with(api.MaxTerms, api.MaxNames)
	for n := range last {
		g.Rules = append(g.Rules, rule(n, manySyms(api.MaxRight, name(n+1))...))
	}
	for i := range api.MaxTerms {
		g.Rules = append(g.Rules, rule(last, term(i)))
	}
	for len(g.Rules) < api.MaxRules {
		g.Rules = append(g.Rules, rule(last))
	}
	return g
}

// C1, at all limits at once. (The name 0 makes, though each derivation of it is far beyond MaxSteps: Makes asks for rules alone.)
func TestFull(t *testing.T) {
	all := allBelow(api.MaxNames)
	round := full()
	round.Rules[api.MaxRules-1] = rule(api.MaxNames-1, manySyms(api.MaxRight, name(0))...)
	never := full()
	for i := api.MaxNames - 1; i < api.MaxRules; i++ {
		never.Rules[i] = rule(api.MaxNames-1, append(manySyms(api.MaxRight-1, term(api.MaxTerms-1)), name(0))...)
	}
	wantTold(t, []toldCase{
		{"each name the next one", full(), all + "/" + all + "/"},
		{"and the last one the first one", round, all + "/" + all + "/" + all},
		{"and nothing else", never, "//"},
	})
}

// C1, at each limit of A1 alone.
func TestAtLimits(t *testing.T) {
	some := rule(0, term(0), name(0))
	var rules []api.Rule
	for range api.MaxRules - 1 {
		rules = append(rules, some)
	}
	rules = slices.Clip(rules)
	last := api.MaxNames - 1
	wantTold(t, []toldCase{
		{"terms", with(api.MaxTerms, 1, rule(0, term(api.MaxTerms-1)), rule(0, name(0), term(api.MaxTerms-1))), "0/0/0"},
		{"names", with(1, api.MaxNames, rule(0, name(last)), rule(last, term(0)), rule(last, name(last))), "0b/0b/b"},
		{"rules, the last one of which makes", with(1, 1, append(rules, rule(0))...), "0/0/"},
		{"rules, by the last one of which it begins with itself", with(1, 1, append(rules, rule(0, name(0)))...), "//0"},
		{"rules, the last one of which comes to a name", with(1, 2, slices.Concat(rules[2:], []api.Rule{rule(1), rule(0), rule(0, name(1))})...), "01/01/"},
		{"a Right of names, and itself as the last one", with(1, 2,
			rule(0, append(manySyms(api.MaxRight-1, name(1)), name(0))...), rule(1), rule(0),
		), "01/01/0"},
		{"a Right whose last name does not make", with(1, 3,
			rule(0, append(manySyms(api.MaxRight-1, name(1)), name(2))...), rule(1),
		), "1//"},
		{"a Right that comes to its last name", with(1, 3,
			rule(0, append(manySyms(api.MaxRight-1, term(0)), name(2))...), rule(2),
		), "02/02/"},
	})
}

// C1: what holds of the last name goes through all the others, in whichever order the rules stand.
func TestLongWays(t *testing.T) {
	last := api.MaxNames - 1
	all := allBelow(api.MaxNames)
	var chain []api.Rule
	for n := range last {
		chain = append(chain, rule(n, name(n+1)))
	}
	for ends, want := range map[string]string{
		"":    "//",
		"t":   all + "/" + all + "/",
		"0":   "//" + all,
		"0 t": all + "/" + all + "/" + all,
		"b":   "//b",
		"5":   "//56789ab",
		"5 t": all + "/" + all + "/56789ab",
	} {
		g := with(1, api.MaxNames, chain...)
		for _, end := range strings.Fields(ends) {
			to := map[string]api.Sym{"t": term(0), "0": name(0), "b": name(last), "5": name(5)}[end]
			g.Rules = append(g.Rules[:len(g.Rules):len(g.Rules)], rule(last, to))
		}
		wantTold(t, []toldCase{{"the last name becomes " + ends, g, want}})
	}
}

// C1 and P2: grammars that may not be, by each of A1's words.
func TestErrForm(t *testing.T) {
	good := rule(0, term(0), name(0))
	var rules []api.Rule
	for range api.MaxRules + 1 {
		rules = append(rules, good)
	}
	for what, g := range map[string]api.Grammar{
		"nothing at all":               {},
		"terms below 0":                with(-1, 1),
		"terms beyond the limit":       with(api.MaxTerms+1, 1, good, rule(0)),
		"least terms":                  with(math.MinInt, 1),
		"greatest terms":               with(math.MaxInt, 1, good),
		"no names":                     with(1, 0),
		"names below 0":                with(1, -1),
		"names beyond the limit":       with(1, api.MaxNames+1, good, rule(0)),
		"least names":                  with(1, math.MinInt),
		"greatest names":               with(1, math.MaxInt, good),
		"rules beyond the limit":       with(1, 1, rules...),
		"Left below 0":                 with(1, 2, good, rule(-1)),
		"Left beyond the names":        with(1, 2, good, rule(2)),
		"least Left":                   with(1, 2, good, rule(math.MinInt)),
		"greatest Left":                with(1, 2, good, rule(math.MaxInt)),
		"Right beyond the limit":       with(1, 1, rule(0), rule(0, manySyms(api.MaxRight+1, term(0))...)),
		"names in Right likewise":      with(1, 1, rule(0), rule(0, manySyms(api.MaxRight+1, name(0))...)),
		"a term below 0":               with(1, 1, good, rule(0, term(0), term(-1))),
		"the end as a term":            with(1, 1, good, rule(0, term(0), term(1))),
		"least term":                   with(1, 1, rule(0), rule(0, term(math.MinInt))),
		"greatest term":                with(1, 1, rule(0), rule(0, term(math.MaxInt))),
		"a term without terms":         with(0, 1, rule(0), rule(0, term(0))),
		"a name below 0":               with(1, 1, good, rule(0, name(0), name(-1))),
		"a name beyond the names":      with(4, 1, good, rule(0, name(0), name(1))),
		"least name":                   with(1, 1, rule(0, name(math.MinInt)), good),
		"greatest name":                with(1, 1, rule(0, name(math.MaxInt)), good),
		"wrong where it is never read": with(1, 2, rule(0), rule(1, name(1), term(0), term(9))),
	} {
		for who, ask := range askers() {
			if set, e := ask(g); e != api.ErrForm || len(set) > 0 {
				t.Errorf("%s of %s: %v %v, not ErrForm and nothing else", who, what, set, e)
			}
		}
	}
}
