package sets_test

import (
	"math"
	"slices"
	"strconv"
	"strings"
	"testing"

	"pollarding/api"
	"pollarding/sets"
)

// full is at all limits of A1 at once: each name becomes the next one, as often as a Right holds it, and the last one nothing, or a term.
func full() api.Grammar {
	last := api.MaxNames - 1
	g := with(api.MaxTerms, api.MaxNames)
	for n := range last {
		g.Rules = append(g.Rules, rule(n, manySyms(api.MaxRight, name(n+1))...))
	}
	for i := range api.MaxTerms {
		g.Rules = append(g.Rules, rule(last, term(i)))
	}
	for len(g.Rules) < api.MaxRules {
		g.Rules = append(g.Rules, rule(last))
	}
	return g
}

func allBelow(n int) string {
	out := ""
	for i := range n {
		out += strconv.Itoa(i)
	}
	return out
}

// B1, at all limits at once.
func TestFull(t *testing.T) {
	first := allBelow(api.MaxTerms)
	end := strconv.Itoa(api.MaxTerms)
	want := first + "/" + end + "n" + strings.Repeat(" "+first+"/"+first+end+"n", api.MaxNames-1)
	if got := told(asked(t, full())); got != want {
		t.Error(got, "not", want)
	}
	last := full()
	last.Rules = last.Rules[:api.MaxNames-1+api.MaxTerms]
	want = strings.ReplaceAll(want, "n", "")
	if got := told(asked(t, last)); got != want {
		t.Error("never nothing:", got, "not", want)
	}
}

// B1, at each limit of A1 alone.
func TestAtLimits(t *testing.T) {
	some := rule(0, term(0), name(0))
	var rules []api.Rule
	for range api.MaxRules - 1 {
		rules = append(rules, some)
	}
	lastTerm, lastName := api.MaxTerms-1, api.MaxNames-1
	end := strconv.Itoa(api.MaxTerms)
	for _, c := range []struct {
		what string
		g    api.Grammar
		want string
	}{
		{"terms", with(api.MaxTerms, 1, rule(0, term(lastTerm)), rule(0, name(0), term(0))), "7/0" + end},
		{"names", with(1, api.MaxNames, rule(0, name(lastName)), rule(lastName, term(0))), "0/1" + strings.Repeat(" /", lastName-1) + " 0/1"},
		{"rules", with(1, 1, append(rules, rule(0))...), "0/1n"},
		{"a Right of names, and a term as its last", with(1, 2,
			rule(0, append(manySyms(api.MaxRight-1, name(1)), term(0))...), rule(1),
		), "0/1 /0n"},
		{"a Right of names alone", with(1, 2, rule(0, manySyms(api.MaxRight, name(1))...), rule(1)), "/1n /1n"},
		{"a Right of terms", with(2, 1, rule(0, append(manySyms(api.MaxRight-1, term(0)), term(1))...)), "0/2"},
	} {
		if got := told(asked(t, c.g)); got != c.want {
			t.Errorf("%s: %s, not %s", c.what, got, c.want)
		}
	}
}

// B1: what is known of the last name goes through all the others, in whichever order the rules stand.
func TestLongWays(t *testing.T) {
	last := api.MaxNames - 1
	var chain []api.Rule
	for n := range last {
		chain = append(chain, rule(n, name(n+1)))
	}
	for _, c := range []struct {
		ends []api.Rule
		each string
	}{
		{[]api.Rule{rule(last), rule(last, term(1))}, "1/2n "},
		{[]api.Rule{rule(last, term(0)), rule(last, term(1))}, "01/2 "},
		{[]api.Rule{rule(last, term(0)), rule(last, name(0), term(1))}, "0/12 "},
	} {
		g := with(2, api.MaxNames, slices.Concat(chain, c.ends)...)
		want := strings.TrimSpace(strings.Repeat(c.each, api.MaxNames))
		for range 2 {
			if got := told(asked(t, g)); got != want {
				t.Errorf("%v: %s, not %s", g, got, want)
			}
			slices.Reverse(g.Rules)
		}
	}
}

// B1 and P2: grammars that may not be, by each of A1's words.
func TestErrForm(t *testing.T) {
	good := rule(0, term(0), name(0))
	var rules []api.Rule
	for range api.MaxRules + 1 {
		rules = append(rules, good)
	}
	for what, g := range map[string]api.Grammar{
		"nothing at all":               {},
		"terms below 0":                with(-1, 1),
		"terms beyond the limit":       with(api.MaxTerms+1, 1, good, rule(0)),
		"least terms":                  with(math.MinInt, 1),
		"greatest terms":               with(math.MaxInt, 1, good),
		"no names":                     with(1, 0),
		"names below 0":                with(1, -1),
		"names beyond the limit":       with(1, api.MaxNames+1, good, rule(0)),
		"least names":                  with(1, math.MinInt),
		"greatest names":               with(1, math.MaxInt, good),
		"rules beyond the limit":       with(1, 1, rules...),
		"Left below 0":                 with(1, 2, good, rule(-1)),
		"Left beyond the names":        with(1, 2, good, rule(2)),
		"least Left":                   with(1, 2, good, rule(math.MinInt)),
		"greatest Left":                with(1, 2, good, rule(math.MaxInt)),
		"Right beyond the limit":       with(1, 1, good, rule(0, manySyms(api.MaxRight+1, term(0))...)),
		"names in Right likewise":      with(1, 1, rule(0), rule(0, manySyms(api.MaxRight+1, name(0))...)),
		"a term below 0":               with(1, 1, good, rule(0, term(0), term(-1))),
		"the end as a term":            with(1, 1, good, rule(0, term(0), term(1))),
		"least term":                   with(1, 1, good, rule(0, term(math.MinInt))),
		"greatest term":                with(1, 1, good, rule(0, term(math.MaxInt))),
		"a term without terms":         with(0, 1, rule(0), rule(0, term(0))),
		"a name below 0":               with(1, 1, good, rule(0, name(0), name(-1))),
		"a name beyond the names":      with(4, 1, good, rule(0, name(0), name(1))),
		"least name":                   with(1, 1, rule(0, name(math.MinInt)), good),
		"greatest name":                with(1, 1, rule(0, name(math.MaxInt)), good),
		"wrong where it is never read": with(1, 1, rule(0, term(0), name(0), term(0), name(9))),
	} {
		s, e := sets.Of(g)
		if e != api.ErrForm {
			t.Errorf("%s: %v, not ErrForm", what, e)
		}
		if len(s.Null)+len(s.First)+len(s.Follow) > 0 {
			t.Errorf("%s: something is answered beside the error: %v", what, s)
		}
	}
}
