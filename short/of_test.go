package short_test

import (
	"slices"
	"testing"

	"pollarding/api"
)

// D1, worked out by hand: names whose shortest yield comes by way of others.
func TestByWayOfOthers(t *testing.T) {
	wantTold(t, []toldCase{
		{"one term", with(1, 1, rule(0, term(0))), []int{1}},
		{"several terms", with(3, 1, rule(0, term(2), term(0), term(2))), []int{3}},
		{"one other name", with(1, 2, rule(0, name(1)), rule(1, tokens(2)...)), []int{2, 2}},
		{"terms ahead, between and behind", with(2, 2,
			rule(0, term(0), name(1), term(1), name(1), term(0)), rule(1, tokens(2)...),
		), []int{7, 2}},
		{"from one to the next", with(1, 4,
			rule(0, name(1), term(0)), rule(1, name(2), name(2)), rule(2, term(0), name(3)), rule(3, tokens(3)...),
		), []int{9, 8, 4, 3}},
		{"the other way round", with(1, 4,
			rule(0, tokens(3)...), rule(1, term(0), name(0)), rule(2, name(1), name(1)), rule(3, name(2), term(0)),
		), []int{3, 4, 8, 9}},
		{"a name at two places, and others between", with(1, 3,
			rule(0, name(1), name(2), name(1)), rule(1, tokens(2)...), rule(2, tokens(5)...),
		), []int{9, 2, 5}},
		{"names that nothing comes to", with(1, 3, rule(0, term(0)), rule(1, name(2), name(0)), rule(2, tokens(2)...)), []int{1, 3, 2}},
		{"a term is no name: the same numbers in both", with(3, 3,
			rule(0, term(1), name(2), term(2)), rule(1, tokens(7)...), rule(2, tokens(4)...),
		), []int{6, 7, 4}},
	})
}

// D1, worked out by hand: names with several rules.
func TestSeveralRules(t *testing.T) {
	wantTold(t, []toldCase{
		{"the first yields the fewest", with(1, 1, rule(0, tokens(2)...), rule(0, tokens(4)...), rule(0, tokens(3)...)), []int{2}},
		{"the last does", with(1, 1, rule(0, tokens(4)...), rule(0, tokens(3)...), rule(0, tokens(2)...)), []int{2}},
		{"one between does", with(1, 1, rule(0, tokens(4)...), rule(0, tokens(2)...), rule(0, tokens(3)...)), []int{2}},
		{"all yield as many", with(2, 1, rule(0, term(0), term(1)), rule(0, term(1), term(0)), rule(0, term(1), term(1))), []int{2}},
		{"rules of other names between", with(1, 2,
			rule(0, tokens(4)...), rule(1, tokens(1)...), rule(0, tokens(2)...), rule(1, tokens(5)...), rule(0, tokens(3)...),
		), []int{2, 1}},
		{"a longer rule yields fewer", with(1, 3,
			rule(0, name(1)), rule(0, name(2), name(2), term(0), name(2)), rule(1, tokens(5)...), rule(2, term(0)),
		), []int{4, 5, 1}},
		{"a longer rule, of names that yield nothing", with(1, 2, rule(0, term(0)), rule(0, manySyms(5, name(1))...), rule(1)), []int{0, 0}},
		{"a rule of names yields fewer than one of terms", with(1, 2, rule(0, tokens(3)...), rule(0, name(1), name(1)), rule(1, term(0))), []int{2, 1}},
		{"and one of terms fewer than one of names", with(1, 2, rule(0, tokens(3)...), rule(0, name(1), name(1)), rule(1, tokens(2)...)), []int{3, 2}},
		{"each place takes the fewest of its name", with(1, 2,
			rule(0, name(1), name(1), name(1)), rule(1, tokens(4)...), rule(1, tokens(2)...),
		), []int{6, 2}},
		{"what is found late is carried on to what was found early", with(1, 5,
			rule(0, name(1), name(1)), rule(1, tokens(8)...), rule(1, name(2)), rule(2, tokens(7)...), rule(2, name(3), name(3)),
			rule(3, tokens(3)...), rule(3, name(4)), rule(4, term(0)),
		), []int{4, 2, 2, 1, 1}},
	})
}

// D1, worked out by hand: names below themselves.
func TestCycles(t *testing.T) {
	wantTold(t, []toldCase{
		{"itself, or a term", with(1, 1, rule(0, name(0)), rule(0, term(0))), []int{1}},
		{"itself twice, or terms", with(1, 1, rule(0, name(0), name(0)), rule(0, tokens(3)...)), []int{3}},
		{"itself behind a term, or nothing", with(1, 1, rule(0, term(0), name(0)), rule(0)), []int{0}},
		{"two by way of one another, one of which ends", with(1, 2,
			rule(0, name(1), term(0)), rule(1, name(0), term(0)), rule(1, tokens(4)...),
		), []int{5, 4}},
		{"both of which end", with(1, 2,
			rule(0, name(1), term(0)), rule(0, tokens(7)...), rule(1, name(0), term(0)), rule(1, tokens(4)...),
		), []int{5, 4}},
		{"each by way of the other, where that is shorter", with(1, 3,
			rule(0, name(1)), rule(0, tokens(6)...), rule(1, name(2)), rule(1, tokens(5)...), rule(2, name(0)), rule(2, tokens(2)...),
		), []int{2, 2, 2}},
		{"through a circle of three, with something at each step", with(1, 3,
			rule(0, name(1), term(0)), rule(1, name(2), term(0)), rule(2, name(0), term(0)), rule(2, term(0)),
		), []int{3, 2, 1}},
		{"a circle that yields nothing", with(1, 3, rule(0, name(1)), rule(1, name(2)), rule(2, name(0)), rule(2)), []int{0, 0, 0}},
		{"two circles, one of which goes on to the other", with(1, 4,
			rule(0, name(1), term(0)), rule(1, name(0), term(0)), rule(1, name(2), name(2)),
			rule(2, name(3), term(0)), rule(3, name(2)), rule(3, tokens(2)...),
		), []int{7, 6, 3, 2}},
	})
}

// D1: -1 of names that have none; what has such a name is no way to a yield, whatever stands beside it.
func TestNone(t *testing.T) {
	wantTold(t, []toldCase{
		{"no rules of its own", with(1, 2, rule(0, term(0))), []int{1, -1}},
		{"nor of the name 0", with(1, 2, rule(1, term(0))), []int{-1, 1}},
		{"itself, and nothing else", with(1, 1, rule(0, name(0))), []int{-1}},
		{"itself behind a term", with(1, 1, rule(0, term(0), name(0))), []int{-1}},
		{"two by way of one another alone", with(1, 3, rule(0), rule(1, name(2)), rule(2, term(0), name(1))), []int{0, -1, -1}},
		{"none as the first of the names", with(1, 3, rule(0, name(1), name(2)), rule(2, tokens(2)...)), []int{-1, -1, 2}},
		{"as the last of them", with(1, 3, rule(0, name(2), name(1)), rule(2, tokens(2)...)), []int{-1, -1, 2}},
		{"between them", with(1, 3, rule(0, name(2), name(1), name(2)), rule(2, tokens(2)...)), []int{-1, -1, 2}},
		{"between terms", with(1, 2, rule(0, term(0), name(1), term(0))), []int{-1, -1}},
		{"several of them", with(1, 2, rule(0, term(0), name(1), name(1), term(0))), []int{-1, -1}},
		{"beside a name that yields nothing", with(1, 3, rule(0, name(2), name(1)), rule(2)), []int{-1, -1, 0}},
		{"from one to the next", with(1, 4, rule(0, name(1)), rule(1, name(2)), rule(2, name(3), term(0))), []int{-1, -1, -1, -1}},
		{"names that have none, and nothing comes to", with(1, 3, rule(0, term(0)), rule(1, name(2), name(0)), rule(2, name(2))), []int{1, -1, -1}},
	})
}

// D1: of a name's rules some have no derivation, and others have.
func TestSomeHaveNone(t *testing.T) {
	wantTold(t, []toldCase{
		{"the first has none", with(1, 2, rule(0, name(1)), rule(0, tokens(3)...), rule(0, tokens(2)...)), []int{2, -1}},
		{"one between has none", with(1, 2, rule(0, tokens(3)...), rule(0, name(1), term(0)), rule(0, tokens(2)...)), []int{2, -1}},
		{"the last has none", with(1, 2, rule(0, tokens(2)...), rule(0, tokens(3)...), rule(0, term(0), name(1))), []int{2, -1}},
		{"all but one have none", with(1, 3,
			rule(0, name(1)), rule(0, name(2), name(1)), rule(0, tokens(6)...), rule(0, name(1), name(2)), rule(2, term(0)),
		), []int{6, -1, 1}},
		{"all have none", with(1, 3, rule(0, name(1)), rule(0, name(2), name(1)), rule(2)), []int{-1, -1, 0}},
		{"what has none would be shorter", with(1, 3,
			rule(0, name(1), name(2)), rule(0, tokens(7)...), rule(1), rule(2, name(2), name(1)),
		), []int{7, 0, -1}},
		{"deeper down", with(1, 4,
			rule(0, name(1), name(1)), rule(1, name(3), term(0)), rule(1, name(2), term(0)), rule(2, name(3)), rule(2, tokens(3)...),
		), []int{8, 4, 3, -1}},
	})
}

// D1: 0 of names that yield nothing.
func TestNothing(t *testing.T) {
	wantTold(t, []toldCase{
		{"at once", with(1, 1, rule(0)), []int{0}},
		{"or something", with(1, 1, rule(0, term(0)), rule(0)), []int{0}},
		{"by way of others", with(1, 3, rule(0, name(1), name(2)), rule(1, name(2), name(2)), rule(2)), []int{0, 0, 0}},
		{"by way of others that may yield something", with(1, 3,
			rule(0, name(1), name(2)), rule(1, name(2), name(2)), rule(1, term(0)), rule(2), rule(2, tokens(2)...),
		), []int{0, 0, 0}},
		{"one name that does not, among them", with(1, 3, rule(0, name(1), name(2), name(1)), rule(1), rule(2, term(0))), []int{1, 0, 1}},
		{"a term among them", with(1, 2, rule(0, name(1), term(0), name(1)), rule(1)), []int{1, 0}},
	})
}

// D1: without terms a yield has no tokens, and without rules there is none.
func TestNoTermsNoRules(t *testing.T) {
	wantTold(t, []toldCase{
		{"nothing", with(0, 1, rule(0)), []int{0}},
		{"itself", with(0, 1, rule(0, name(0))), []int{-1}},
		{"itself, or nothing", with(0, 1, rule(0, name(0), name(0)), rule(0)), []int{0}},
		{"others", with(0, 4, rule(0, name(1), name(2)), rule(1), rule(2, name(1)), rule(3, name(3), name(0))), []int{0, 0, 0, -1}},
	})
	for terms := range api.MaxTerms + 1 {
		for names := 1; names <= api.MaxNames; names++ {
			if got := asked(t, with(terms, names)); !slices.Equal(got, slices.Repeat([]int{-1}, names)) {
				t.Errorf("%d terms, %d names, no rules: %v", terms, names, got)
			}
		}
	}
}

// D1, on many small grammars, against derivations that are looked for one by one.
func TestSmall(t *testing.T) {
	seen := map[int]int{}
	eachSmall(func(g api.Grammar) {
		got := asked(t, g)
		for n := range g.Names {
			if want := fewest(g, n, nil); got[n] != want {
				t.Fatalf("%v: the name %d: %d, not %d", g, n, got[n], want)
			}
			seen[min(got[n], 6)]++
		}
	})
	for n := -1; n <= 6; n++ {
		if seen[n] < 20 {
			t.Error("too few names were looked at:", n, seen[n])
		}
	}
}

// fewest goes through all derivations of a name that have no name below itself: one of the shortest is among them. It answers -1 if there are none.
func fewest(g api.Grammar, n int, through []int) int {
	best := -1
	if slices.Contains(through, n) {
		return best
	}
	through = append(slices.Clone(through), n)
	for _, r := range g.Rules {
		if r.Left != n {
			continue
		}
		sum := 0
		for _, s := range r.Right {
			of := 1
			if !s.Term {
				of = fewest(g, s.N, through)
			}
			if of < 0 {
				sum = -1
				break
			}
			sum += of
		}
		if sum >= 0 && (best < 0 || sum < best) {
			best = sum
		}
	}
	return best
}
