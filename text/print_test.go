package text_test

import (
	"math"
	"strings"
	"testing"

	"pollarding/api"
)

// I1 and I2, both ways: the text of a grammar, and the grammar of that text.
func TestTexts(t *testing.T) {
	for _, c := range []struct {
		what string
		g    api.Grammar
		text string
	}{
		{"the chapter's", chapter(), chapterText},
		{"the least one", with(0, 1), "terms 0 names 1\n"},
		{"terms without rules", with(3, 1), "terms 3 names 1\n"},
		{"one empty rule", with(0, 1, rule(0)), "terms 0 names 1\nn0:\n"},
		{"the same rule again", with(0, 1, rule(0), rule(0)), "terms 0 names 1\nn0:\nn0:\n"},
		{"a term alone", with(1, 1, rule(0, term(0))), "terms 1 names 1\nn0: t0\n"},
		{"a name alone", with(1, 1, rule(0, name(0))), "terms 1 names 1\nn0: n0\n"},
		{"no term", with(0, 3, rule(2, name(1), name(0))), "terms 0 names 3\nn2: n1 n0\n"},
		{"terms and names of the same number", with(3, 3, rule(2, term(2), name(2), term(1), name(1))), "terms 3 names 3\nn2: t2 n2 t1 n1\n"},
		{"the last term, the last name", with(api.MaxTerms, api.MaxNames, rule(11, term(7), name(11))), "terms 8 names 12\nn11: t7 n11\n"},
		{"one digit and two", with(8, 12, rule(9), rule(10), rule(1, name(9), name(10), name(1))), "terms 8 names 12\nn9:\nn10:\nn1: n9 n10 n1\n"},
		{"names of two digits", with(2, 10, rule(9, term(1), term(0))), "terms 2 names 10\nn9: t1 t0\n"},
		{"as many symbols as may be", with(1, 1, rule(0, manySyms(api.MaxRight, term(0))...)), "terms 1 names 1\nn0: t0 t0 t0 t0 t0 t0 t0 t0\n"},
		{"as many rules as may be", with(0, 1, manyRules(api.MaxRules)...), "terms 0 names 1\n" + strings.Repeat("n0:\n", 40)},
		{"at all limits", full(), "terms 8 names 12\n" + strings.Repeat("n11: t7 t7 t7 t7 t7 t7 t7 n11\n", 40)},
		{"rules in their order", with(1, 2, rule(1, term(0)), rule(0, name(1)), rule(1)), "terms 1 names 2\nn1: t0\nn0: n1\nn1:\n"},
	} {
		if s := printed(t, c.g); s != c.text {
			t.Errorf("%s: Print: %q, not %q", c.what, s, c.text)
		}
		if g := parsed(t, c.text); !same(g, c.g) {
			t.Errorf("%s: Parse: %v, not %v", c.what, g, c.g)
		}
	}
}

// I2: a grammar has no text, if it may not be by one of A1's words.
func TestNoText(t *testing.T) {
	good := rule(0, term(0), name(0))
	for _, c := range []struct {
		what string
		g    api.Grammar
	}{
		{"nothing at all", api.Grammar{}},
		{"terms below 0", with(-1, 1)},
		{"terms beyond the limit", with(api.MaxTerms+1, 1)},
		{"least terms", with(math.MinInt, 1)},
		{"greatest terms", with(math.MaxInt, 1)},
		{"names below 0", with(1, -1)},
		{"no names", with(1, 0)},
		{"names beyond the limit", with(1, api.MaxNames+1)},
		{"least names", with(1, math.MinInt)},
		{"greatest names", with(1, math.MaxInt)},
		{"rules beyond the limit", with(1, 1, manyRules(api.MaxRules+1)...)},
		{"Left below 0", with(1, 2, rule(-1))},
		{"Left beyond the last name", with(1, 2, rule(2))},
		{"Left beyond the last name, but not the last term", with(5, 2, rule(4))},
		{"terms in Right beyond the limit", with(1, 1, rule(0, manySyms(api.MaxRight+1, term(0))...))},
		{"names in Right beyond the limit", with(1, 1, rule(0, manySyms(api.MaxRight+1, name(0))...))},
		{"a term below 0", with(3, 5, rule(0, term(-1)))},
		{"beyond the last term", with(3, 5, rule(0, term(3)))},
		{"a term where there is none", with(0, 5, rule(0, term(0)))},
		{"a name below 0", with(5, 3, rule(0, name(-1)))},
		{"beyond the last name", with(5, 3, rule(0, name(3)))},
		{"wrong in a later rule", with(1, 1, good, good, rule(1))},
		{"wrong in a later symbol", with(1, 1, good, rule(0, name(0), term(0), name(1)))},
	} {
		wantNoText(t, c.what, c.g)
	}
}
