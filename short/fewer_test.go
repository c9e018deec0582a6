package short_test

import (
	"testing"

	"pollarding/api"
	"pollarding/gram"
)

// eachDerivation calls do with the derivations of the name 0, of at most that many rules.
func eachDerivation(g api.Grammar, longest int, do func(d []int)) {
	var derive func(d []int, open []api.Sym)
	derive = func(d []int, open []api.Sym) {
		for len(open) > 0 && open[0].Term {
			open = open[1:]
		}
		if len(open) == 0 {
			do(d)
			return
		}
		if len(d) == longest {
			return
		}
		for i, r := range g.Rules {
			if r.Left == open[0].N {
				derive(append(d[:len(d):len(d)], i), append(append([]api.Sym{}, r.Right...), open[1:]...))
			}
		}
	}
	derive(nil, []api.Sym{name(0)})
}

// yielded answers how many tokens a derivation of the name 0 yields, and holds them against D2's words: of is what is told of the name 0.
func yielded(t *testing.T, g api.Grammar, of int, d []int) int {
	t.Helper()
	yield, ok := gram.Yield(g, d)
	if !ok {
		t.Fatalf("%v: %v is no derivation", g, d)
	}
	if of < 0 || len(yield) < of {
		t.Fatalf("%v: the derivation %v yields %d tokens, and the fewest are told to be %d", g, d, len(yield), of)
	}
	return len(yield)
}

// D2, on derivations of a grammar in which the way to the shortest yield is not the shortest derivation.
func TestFewer(t *testing.T) {
	g := with(2, 4,
		rule(0, term(0), term(0), term(0)), // 0
		rule(0, name(1), name(2), name(1)), // 1
		rule(0, name(0), term(1)),          // 2
		rule(1, name(3), name(3)),          // 3
		rule(1, term(1)),                   // 4
		rule(2, term(0), name(1)),          // 5
		rule(2, term(0), term(1)),          // 6
		rule(3),                            // 7
		rule(3, term(0)),                   // 8
	)
	of := asked(t, g)[0]
	if of != 1 {
		t.Error("a derivation of 11 rules yields the fewest, 1:", of)
	}
	for _, c := range []struct {
		d      []int
		yields int
	}{
		{[]int{0}, 3},
		{[]int{2, 0}, 4},
		{[]int{1, 4, 6, 4}, 4},
		{[]int{1, 4, 5, 4, 4}, 4},
		{[]int{1, 3, 7, 7, 6, 4}, 3},
		{[]int{1, 3, 7, 7, 5, 3, 7, 7, 3, 7, 7}, 1},
		{[]int{1, 3, 7, 8, 5, 3, 7, 7, 3, 7, 7}, 2},
		{[]int{2, 2, 1, 3, 7, 7, 5, 3, 7, 7, 3, 7, 7}, 3},
	} {
		if got := yielded(t, g, of, c.d); got != c.yields {
			t.Errorf("%v yields %d tokens, not %d", c.d, got, c.yields)
		}
	}
}

// D2: derivations of MaxSteps rules, of which one yields the fewest of all.
func TestFewerLong(t *testing.T) {
	g := with(1, 4,
		rule(0, manySyms(7, name(1))...),
		rule(1, manySyms(8, name(2))...),
		rule(2, manySyms(6, name(3))...),
		rule(3, term(0)),
		rule(3, tokens(2)...),
	)
	of := asked(t, g)[0]
	if of != 336 {
		t.Error("the fewest are 336:", of)
	}
	for _, c := range []struct{ end, yields int }{{3, 336}, {4, 672}} {
		d := down(g, 0, c.end)
		if len(d) != api.MaxSteps {
			t.Fatal("no derivation of so many rules:", len(d))
		}
		if got := yielded(t, g, of, d); got != c.yields {
			t.Errorf("the rule %d at each end: %d tokens, not %d", c.end, got, c.yields)
		}
	}
}

// down is the derivation of a name that takes the first rule of each name, and of the last name the rule end.
func down(g api.Grammar, n, end int) []int {
	i := n
	if n == g.Names-1 {
		i = end
	}
	d := []int{i}
	for _, s := range g.Rules[i].Right {
		if !s.Term {
			d = append(d, down(g, s.N, end)...)
		}
	}
	return d
}

// D2, on the short derivations of many small grammars.
func TestFewerSmall(t *testing.T) {
	looked := 0
	eachSmall(func(g api.Grammar) {
		of := asked(t, g)[0]
		eachDerivation(g, 4, func(d []int) {
			yielded(t, g, of, d)
			looked++
		})
	})
	if looked < 1000 {
		t.Error("too few derivations were looked at:", looked)
	}
}

// The other way round: where the name 0 has a shortest yield, a derivation yields just so many tokens.
func TestFewestIsSeen(t *testing.T) {
	looked := 0
	eachSmall(func(g api.Grammar) {
		of := asked(t, g)[0]
		d := shortest(g)
		if (d == nil) != (of < 0) {
			t.Fatalf("%v: the fewest are told to be %d, and the derivation is %v", g, of, d)
		}
		if d == nil || len(d) > api.MaxSteps {
			return
		}
		if got := yielded(t, g, of, d); got != of {
			t.Fatalf("%v: the fewest are told to be %d, and %v yields %d", g, of, d, got)
		}
		looked++
	})
	if looked < 1000 {
		t.Error("too few derivations were looked at:", looked)
	}
}

// shortest answers a derivation of the name 0 that yields the fewest tokens: its names are settled one by one, each time the one with the fewest of those that are not settled yet.
func shortest(g api.Grammar) []int {
	settled := map[int][]int{}
	tokens := map[int]int{}
	for range g.Names {
		best, name, way := -1, 0, []int(nil)
		for i, r := range g.Rules {
			if settled[r.Left] != nil {
				continue
			}
			d, sum, ok := below(settled, tokens, r.Right)
			if ok && (best < 0 || sum < best) {
				best, name, way = sum, r.Left, append([]int{i}, d...)
			}
		}
		if best < 0 {
			break
		}
		settled[name], tokens[name] = way, best
	}
	return settled[0]
}

// below puts together what is settled of syms, if all of it is.
func below(settled map[int][]int, tokens map[int]int, syms []api.Sym) ([]int, int, bool) {
	var d []int
	sum := 0
	for _, s := range syms {
		if s.Term {
			sum++
			continue
		}
		if settled[s.N] == nil {
			return nil, 0, false
		}
		d = append(d, settled[s.N]...)
		sum += tokens[s.N]
	}
	return d, sum, true
}
