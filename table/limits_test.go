package table_test

import (
	"fmt"
	"math"
	"slices"
	"strings"
	"testing"

	"pollarding/api"
	"pollarding/table"
)

// wantError asks for an error, and that all else is zero (P2).
func wantError(t *testing.T, what string, g api.Grammar, want api.Errno) {
	t.Helper()
	if x, e := table.Of(g); e != want || len(x.Cells)+len(x.Goto) > 0 {
		t.Errorf("%s: %v %v, not the error %v and nothing else", what, e, x, want)
	}
}

// tree has rules that begin with two terms, no two with the same ones, and go on with others: of the first ones as many as there may be, of the last one so many that there are length symbols in all. So there is a state of each beginning of a rule: eight rules have the first of it as one, and each has all others alone; and there are the state 0, and that of the rule above.
func tree(full, length int, other api.Sym) api.Grammar {
	g := with(api.MaxTerms, 2)
	for i := range full + 1 {
		n := api.MaxRight
		if i == full {
			n = length
		}
		right := append([]api.Sym{term(i / 8), term(i % 8)}, manySyms(n-2, other)...)
		g.Rules = append(g.Rules, rule(0, right...))
	}
	return g
}

// F3: just MaxStates states, one fewer, and one more and many more: 20 whole rules have 3+20*7 states, and another one of n symbols n-1.
func TestMaxStates(t *testing.T) {
	for _, other := range []api.Sym{term(5), name(1)} {
		for length, states := range map[int]int{5: 149, 6: api.MaxStates} {
			g := tree(20, length, other)
			if got := wantWords(t, g); got != states {
				t.Errorf("%d states, not %d", got, states)
			}
			slices.Reverse(g.Rules)
			if got := len(asked(t, g).Cells); got != states {
				t.Errorf("%d states, not %d, with the rules in reverse", got, states)
			}
		}
		for length := 7; length <= api.MaxRight; length++ {
			wantError(t, "too many", tree(20, length, other), api.ErrSize)
		}
		for full := 21; full < api.MaxRules; full++ {
			wantError(t, "far too many", tree(full, 2, other), api.ErrSize)
		}
	}
}

// F3: where a state goes on to those that are there already, there is none more, also if there are MaxStates.
func TestMaxStatesAndBack(t *testing.T) {
	g := tree(20, 6, name(1))
	g.Rules[20].Right[5] = name(0)
	if got := wantWords(t, g); got != api.MaxStates {
		t.Error(got)
	}
	g.Rules[20].Right = append(g.Rules[20].Right, term(0))
	wantError(t, "one more", g, api.ErrSize)
}

// subsets has a name for each of so many terms, whose rules go on by each term but its own. So where the terms lead depends on which of them were there, and which was the last: there are many more states than rules.
func subsets(n int) api.Grammar {
	g := with(n, n+1)
	for i := range n {
		g.Rules = append(g.Rules, rule(0, name(i+1)))
		for k := range n {
			if k != i {
				g.Rules = append(g.Rules, rule(i+1, term(k), name(i+1)))
			}
		}
	}
	return g
}

// F1 and F3: states that are come to by very many ways. With 5 terms: 5*16-5 of terms, 5*4 behind a term and a name, 5 of a name alone, the state 0, and that of the rule above.
func TestSubsets(t *testing.T) {
	if got := wantWords(t, subsets(5)); got != 102 {
		t.Errorf("%d states, not 102", got)
	}
	if got := wantWords(t, subsets(4)); got != 4*8-4+4*3+4+2 {
		t.Errorf("%d states", got)
	}
	wantError(t, "6 terms", subsets(6), api.ErrSize)
}

// F3, at each limit of A1 alone.
func TestAtLimits(t *testing.T) {
	terms := with(api.MaxTerms, 1)
	wantTerms := []string{"t0>1 t1>2 t2>3 t3>4 t4>5 t5>6 t6>7 t7>8 n0>9"}
	for n := range api.MaxTerms {
		terms.Rules = append(terms.Rules, rule(0, term(n)))
		wantTerms = append(wantTerms, fmt.Sprintf("e:%d", n))
	}
	last := api.MaxNames - 1
	var numbers []string
	for n := range api.MaxRules {
		numbers = append(numbers, fmt.Sprint(n))
	}
	all := strings.Join(numbers, ",")
	wantTables(t, []tableCase{
		{"terms", terms, strings.Join(append(wantTerms, "e!"), " | "), 0},
		{"the last term ahead", with(api.MaxTerms, 2, rule(0, name(1), term(7)), rule(1, term(0))),
			"t0>1 n0>2 n1>3 | t7:1 | e! | t7>4 | e:0", 0},
		{"names", with(1, api.MaxNames, rule(0, name(last)), rule(last, term(0))),
			"t0>1 n0>2 n11>3 | e:1 | e! | e:0", 0},
		{"rules, all in one cell", with(1, 1, slices.Repeat([]api.Rule{rule(0, term(0))}, api.MaxRules)...),
			"t0>1 n0>2 | e:" + all + " | e!", 1},
		{"rules, all in one cell beside the End", with(0, 1, slices.Repeat([]api.Rule{rule(0, name(0))}, api.MaxRules)...),
			"n0>1 | e:" + all + " e!", 1},
		{"rules, all with nothing in Right", with(0, 1, slices.Repeat([]api.Rule{rule(0)}, api.MaxRules)...),
			"e:" + all + " n0>1 | e!", 1},
		{"a Right of terms", with(1, 1, rule(0, manySyms(api.MaxRight, term(0))...)),
			"t0>1 n0>2 | t0>3 | e! | t0>4 | t0>5 | t0>6 | t0>7 | t0>8 | t0>9 | e:0", 0},
		{"a Right of names that are nothing", with(1, 2, rule(0, manySyms(api.MaxRight, name(1))...), rule(1)),
			"e:1 n0>1 n1>2 | e! | e:1 n1>3 | e:1 n1>4 | e:1 n1>5 | e:1 n1>6 | e:1 n1>7 | e:1 n1>8 | e:1 n1>9 | e:0", 0},
	})
}

// F1 to F4, at all limits of A1 at once: many items in a state, and many lookaheads of each.
func TestFull(t *testing.T) {
	last := api.MaxNames - 1
	for _, first := range []api.Sym{name(0), name(last), term(7)} {
		g := with(api.MaxTerms, api.MaxNames)
		for n := range api.MaxNames {
			g.Rules = append(g.Rules, rule(n, name((n+1)%api.MaxNames)), rule(n, name((n+5)%api.MaxNames)))
		}
		for n := range api.MaxTerms {
			g.Rules = append(g.Rules, rule(last, term(n)))
		}
		for len(g.Rules) < api.MaxRules-1 {
			g.Rules = append(g.Rules, rule(last-len(g.Rules)%3))
		}
		g.Rules = append(g.Rules, rule(0, append([]api.Sym{first}, manySyms(api.MaxRight-1, name(0))...)...))
		if got := wantWords(t, g); got < 20 || got > api.MaxStates {
			t.Error(got)
		}
	}
}

// F3 and P2: grammars that may not be, by each of A1's words; also where there would be too many states.
func TestErrForm(t *testing.T) {
	nothing, good := rule(0), rule(0, term(0), name(0))
	many := tree(39, 8, term(0))
	many.Rules = append(many.Rules, good)
	for what, g := range map[string]api.Grammar{
		"nothing at all":                  {},
		"terms below 0":                   with(-1, 1, nothing),
		"terms beyond the limit":          with(api.MaxTerms+1, 1, good, nothing),
		"least terms":                     with(math.MinInt, 1, nothing),
		"greatest terms":                  with(math.MaxInt, 1, good, nothing),
		"no names":                        with(1, 0),
		"names below 0":                   with(1, -1),
		"names beyond the limit":          with(1, api.MaxNames+1, good, nothing),
		"least names":                     with(1, math.MinInt),
		"greatest names":                  with(1, math.MaxInt, good, nothing),
		"rules beyond the limit":          with(1, 1, append(slices.Repeat([]api.Rule{good}, api.MaxRules), nothing)...),
		"rules, and states, beyond it":    many,
		"Left below 0":                    with(1, 2, good, nothing, rule(-1)),
		"Left beyond the names":           with(1, 2, good, nothing, rule(2)),
		"least Left":                      with(1, 2, good, nothing, rule(math.MinInt)),
		"greatest Left":                   with(1, 2, good, nothing, rule(math.MaxInt)),
		"Right beyond the limit":          with(1, 1, good, nothing, rule(0, manySyms(api.MaxRight+1, term(0))...)),
		"names in Right likewise":         with(1, 1, good, nothing, rule(0, manySyms(api.MaxRight+1, name(0))...)),
		"a Right of far too many states":  with(1, 1, rule(0, manySyms(1000, term(0))...)),
		"a term below 0":                  with(1, 1, good, nothing, rule(0, term(0), term(-1))),
		"the end as a term":               with(1, 1, good, nothing, rule(0, term(0), term(1))),
		"least term":                      with(1, 1, good, nothing, rule(0, term(math.MinInt))),
		"greatest term":                   with(1, 1, good, nothing, rule(0, term(math.MaxInt))),
		"a term without terms":            with(0, 1, nothing, rule(0, term(0))),
		"a name below 0":                  with(1, 1, good, nothing, rule(0, name(0), name(-1))),
		"a name beyond the names":         with(4, 1, good, nothing, rule(0, name(0), name(1))),
		"least name":                      with(1, 1, rule(0, name(math.MinInt)), good, nothing),
		"greatest name":                   with(1, 1, rule(0, name(math.MaxInt)), good, nothing),
		"wrong where nothing comes to it": with(1, 2, good, nothing, rule(1, name(1), term(0), term(9))),
	} {
		wantError(t, what, g, api.ErrForm)
	}
}
