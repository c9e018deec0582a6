package gram_test

import (
	"math"
	"testing"

	"pollarding/api"
	"pollarding/gram"
)

func manyRules(n int) []api.Rule {
	var out []api.Rule
	for range n {
		out = append(out, rule(0))
	}
	return out
}

func manySyms(n int, s api.Sym) []api.Sym {
	var out []api.Sym
	for range n {
		out = append(out, s)
	}
	return out
}

func with(terms, names int, rules ...api.Rule) api.Grammar {
	return api.Grammar{Terms: terms, Names: names, Rules: rules}
}

// A1: ordinary ones, and each limit, at it and one beyond it.
func TestMay(t *testing.T) {
	last := rule(0, term(0), name(0))
	for _, c := range []struct {
		what string
		g    api.Grammar
		may  bool
	}{
		{"the chapter's", chapter(), true},
		{"several names", several(), true},
		{"a wide one", wide(), true},
		{"nothing at all", api.Grammar{}, false},
		{"no rules", with(0, 1), true},
		{"no terms", with(0, 1, rule(0, name(0))), true},

		{"terms below 0", with(-1, 1), false},
		{"terms at the limit", with(api.MaxTerms, 1), true},
		{"terms beyond the limit", with(api.MaxTerms+1, 1), false},
		{"least terms", with(math.MinInt, 1), false},
		{"greatest terms", with(math.MaxInt, 1), false},

		{"names below 0", with(1, -1), false},
		{"no names", with(1, 0), false},
		{"one name", with(1, 1), true},
		{"names at the limit", with(1, api.MaxNames), true},
		{"names beyond the limit", with(1, api.MaxNames+1), false},
		{"least names", with(1, math.MinInt), false},
		{"greatest names", with(1, math.MaxInt), false},

		{"rules at the limit", with(1, 1, manyRules(api.MaxRules)...), true},
		{"rules beyond the limit", with(1, 1, manyRules(api.MaxRules+1)...), false},

		{"Left below 0", with(1, 2, rule(-1)), false},
		{"Left at the last name", with(1, 2, rule(1)), true},
		{"Left beyond the last name", with(1, 2, rule(2)), false},
		{"greatest Left", with(1, 2, rule(math.MaxInt)), false},
		{"Left may be no term's number", with(8, 2, rule(5)), false},

		{"terms in Right at the limit", with(1, 1, rule(0, manySyms(api.MaxRight, term(0))...)), true},
		{"terms in Right beyond the limit", with(1, 1, rule(0, manySyms(api.MaxRight+1, term(0))...)), false},
		{"names in Right at the limit", with(1, 1, rule(0, manySyms(api.MaxRight, name(0))...)), true},
		{"names in Right beyond the limit", with(1, 1, rule(0, manySyms(api.MaxRight+1, name(0))...)), false},

		{"a term below 0", with(3, 5, rule(0, term(-1))), false},
		{"the term 0", with(3, 5, rule(0, term(0))), true},
		{"the last term", with(3, 5, rule(0, term(2))), true},
		{"beyond the last term", with(3, 5, rule(0, term(3))), false},
		{"a term where there is none", with(0, 5, rule(0, term(0))), false},

		{"a name below 0", with(5, 3, rule(0, name(-1))), false},
		{"the last name", with(5, 3, rule(0, name(2))), true},
		{"beyond the last name", with(5, 3, rule(0, name(3))), false},

		{"wrong in a later rule", with(1, 1, last, last, rule(1)), false},
		{"wrong in a later symbol", with(1, 1, last, rule(0, name(0), term(0), name(1))), false},
		{"wrong in the first rule alone", with(1, 1, rule(0, term(1)), last), false},
		{"wrong in the first symbol alone", with(1, 1, rule(0, term(1), term(0))), false},
	} {
		if gram.May(c.g) != c.may {
			t.Errorf("%s: %v, not %v", c.what, !c.may, c.may)
		}
	}
}

// A1, at all limits at once.
func TestMayFull(t *testing.T) {
	full := api.Grammar{Terms: api.MaxTerms, Names: api.MaxNames}
	for range api.MaxRules {
		r := rule(api.MaxNames-1, manySyms(api.MaxRight-1, term(api.MaxTerms-1))...)
		r.Right = append(r.Right, name(api.MaxNames-1))
		full.Rules = append(full.Rules, r)
	}
	if !gram.May(full) {
		t.Error("a grammar that is at all limits may be")
	}
	full.Rules[api.MaxRules-1].Right[api.MaxRight-1].N = api.MaxNames
	if gram.May(full) {
		t.Error("its last symbol is beyond the names")
	}
}
