package sets_test

import (
	"strings"
	"testing"

	"pollarding/api"
	"pollarding/gram"
	"pollarding/sets"
)

// eachDerivation calls do with the derivations of the name 0, of at most that many rules, and their yields.
func eachDerivation(t *testing.T, g api.Grammar, most int, do func(d, yield []int)) {
	var grow func(d []int, open []api.Sym)
	grow = func(d []int, open []api.Sym) {
		for len(open) > 0 && open[0].Term {
			open = open[1:]
		}
		if len(open) == 0 {
			yield, ok := gram.Yield(g, d)
			if !ok {
				t.Fatalf("%v: %v is a derivation", g, d)
			}
			do(d, yield)
			return
		}
		if len(d) == most {
			return
		}
		for i, r := range g.Rules {
			if r.Left == open[0].N {
				grow(append(d[:len(d):len(d)], i), append(append([]api.Sym{}, r.Right...), open[1:]...))
			}
		}
	}
	grow(nil, []api.Sym{name(0)})
}

// wantForeseen holds what a derivation yields against B2's words, and tells whether it yields nothing.
func wantForeseen(t *testing.T, g api.Grammar, d, yield []int) bool {
	t.Helper()
	s := asked(t, g)
	if len(yield) == 0 {
		if !s.Null[0] {
			t.Fatalf("%v: %v yields nothing, and the name 0 is not Null", g, d)
		}
		return true
	}
	if !s.First[0][yield[0]] {
		t.Fatalf("%v: %v yields %v, and First of the name 0 has not its first token", g, d, yield)
	}
	return false
}

// B2, on derivations of a grammar that foresees both: nothing, and each term that its rules have.
func TestForeseen(t *testing.T) {
	g := with(4, 4,
		rule(0, name(1), name(2), name(3)), // 0
		rule(1, term(0)),                   // 1
		rule(1),                            // 2
		rule(2, name(1), name(2), term(1)), // 3
		rule(2),                            // 4
		rule(3, term(2), name(0)),          // 5
		rule(3),                            // 6
	)
	for _, c := range []struct {
		d     []int
		first int // -1: yields nothing
	}{
		{[]int{0, 2, 4, 6}, -1},
		{[]int{0, 1, 4, 6}, 0},
		{[]int{0, 2, 3, 2, 4, 6}, 1},
		{[]int{0, 2, 3, 1, 4, 6}, 0},
		{[]int{0, 2, 3, 2, 3, 2, 4, 6}, 1},
		{[]int{0, 2, 4, 5, 0, 1, 4, 6}, 2},
	} {
		yield, ok := gram.Yield(g, c.d)
		if !ok || len(yield) == 0 != (c.first < 0) || len(yield) > 0 && yield[0] != c.first {
			t.Fatal(c.d, yield, ok)
		}
		wantForeseen(t, g, c.d, yield)
	}
	if got := told(asked(t, g)); !strings.HasPrefix(got, "012/4n ") {
		t.Error("the term 3 is in no rule, and is not foreseen:", got)
	}
}

// B2: derivations of MaxSteps rules, of which one yields a token that stands deep in the tree, and one nothing.
func TestForeseenLong(t *testing.T) {
	g := with(2, 2, rule(0, name(0), name(1)), rule(0, name(0)), rule(0, term(1)), rule(0), rule(1))
	const deep = api.MaxSteps/2 - 1
	for last, wantNothing := range map[int]bool{2: false, 3: true} {
		d := append(make([]int, deep), 1, last)
		for range deep {
			d = append(d, 4)
		}
		yield, ok := gram.Yield(g, d)
		if !ok || len(d) != api.MaxSteps || wantForeseen(t, g, d, yield) != wantNothing {
			t.Error(last, len(d), yield, ok)
		}
	}
}

// B2, on the short derivations of many small grammars.
func TestForeseenSmall(t *testing.T) {
	nothing, something := 0, 0
	eachSmall(func(g api.Grammar) {
		eachDerivation(t, g, 5, func(d, yield []int) {
			if wantForeseen(t, g, d, yield) {
				nothing++
			} else {
				something++
			}
		})
	})
	if nothing < 1000 || something < 1000 {
		t.Error("too few derivations were looked at:", nothing, something)
	}
}

// The other way round: of names that all come to an end, what is foreseen comes.
func TestForeseenComes(t *testing.T) {
	g := with(3, 3,
		rule(0, name(1), name(2)), rule(0, name(2), term(2)),
		rule(1, term(0), name(1)), rule(1),
		rule(2, name(1), term(1)), rule(2),
	)
	nothing, first := false, make([]bool, g.Terms)
	eachDerivation(t, g, 6, func(_, yield []int) {
		if len(yield) == 0 {
			nothing = true
		} else {
			first[yield[0]] = true
		}
	})
	s, _ := sets.Of(g)
	if s.Null[0] != nothing || digits(s.First[0]) != digits(first) {
		t.Error(told(s), nothing, first)
	}
}
