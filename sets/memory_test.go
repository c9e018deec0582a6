package sets_test

import (
	"math"
	"slices"
	"testing"

	"pollarding/api"
	"pollarding/gram"
	"pollarding/sets"
)

func roomy() api.Grammar {
	g := with(3, 3)
	for _, r := range []api.Rule{
		rule(0, name(1), term(0), name(2)), rule(1), rule(1, term(1), name(2)), rule(2, name(1), name(1)),
	} {
		right := append(make([]api.Sym, 0, 12), r.Right...)
		rest := right[len(right):12]
		for i := range rest {
			rest[i] = term(2)
		}
		g.Rules = append(g.Rules, api.Rule{Left: r.Left, Right: right})
	}
	behind := append(g.Rules, rule(0, term(2)), rule(2, term(2)))
	g.Rules = behind[:4]
	return g
}

const roomyTold = "01/3 1/013n 1/013n"

// P3: what is handed in stays as it is, and what lies behind the lists' lengths is neither read nor written.
func TestHandedInStays(t *testing.T) {
	g := roomy()
	was := copied(g)
	if got := told(asked(t, g)); got != roomyTold {
		t.Error(got)
	}
	if !same(g, was) {
		t.Error("what was handed in has changed", g)
	}
	for _, r := range g.Rules {
		for _, s := range r.Right[len(r.Right):12] {
			if s != term(2) {
				t.Error("what lies behind a Right has changed", s)
			}
		}
	}
	if behind := g.Rules[:6]; behind[4].Left != 0 || behind[5].Left != 2 || behind[4].Right[0] != term(2) {
		t.Error("what lies behind the rules has changed", behind)
	}
}

// lists are all lists of bools in what Of answers, up to what they may grow to in place.
func lists(s api.Sets) [][]bool {
	out := [][]bool{s.Null[:cap(s.Null)]}
	for _, l := range s.First {
		out = append(out, l[:cap(l)])
	}
	for _, l := range s.Follow {
		out = append(out, l[:cap(l)])
	}
	return out
}

// P3: no two lists of an answer share memory, and none is kept for the next one.
func TestAnswersAreNew(t *testing.T) {
	g := roomy()
	first, second := asked(t, g), asked(t, g)
	all := append(lists(first), lists(second)...)
	for i, one := range all {
		for _, l := range all {
			clear(l)
		}
		for k := range one {
			one[k] = true
		}
		for k, l := range all {
			if k != i && digits(l) != "" {
				t.Fatalf("the lists %d and %d share memory", i, k)
			}
		}
	}
	clear(first.First[:cap(first.First)])
	isNil := func(l []bool) bool { return l == nil }
	if slices.ContainsFunc(slices.Concat(first.Follow, second.First, second.Follow), isNil) {
		t.Error("lists of lists share memory")
	}
	if got := told(asked(t, g)); got != roomyTold {
		t.Error("an answer hangs on what was done to an earlier one:", got)
	}
	kept := asked(t, g)
	g.Rules[0].Right[0] = term(2)
	if got := told(kept); got != roomyTold {
		t.Error("an answer hangs on what was handed in:", got)
	}
}

// P3: lists that are nil and lists that are empty are the same.
func TestNilOrEmpty(t *testing.T) {
	a := asked(t, api.Grammar{Terms: 1, Names: 1, Rules: []api.Rule{{Right: nil}, {Right: []api.Sym{term(0)}}}})
	b := asked(t, api.Grammar{Terms: 1, Names: 1, Rules: []api.Rule{{Right: []api.Sym{}}, {Right: []api.Sym{term(0)}}}})
	if told(a) != "0/1n" || told(b) != "0/1n" {
		t.Error(told(a), told(b))
	}
	if got := told(asked(t, api.Grammar{Terms: 1, Names: 1, Rules: []api.Rule{}})); got != "/1" {
		t.Error(got)
	}
}

// P1 and P2: no grammar makes Of panic, and it tells of those alone that may be.
func TestNothingPanics(t *testing.T) {
	wild := []int{math.MinInt, -1, 0, 1, 2, api.MaxNames + 1, math.MaxInt}
	for _, terms := range wild {
		for _, names := range wild {
			for _, n := range wild {
				for _, g := range []api.Grammar{
					with(terms, names),
					with(terms, names, rule(n)),
					with(terms, names, rule(0, name(n), term(n)), rule(0)),
					with(terms, names, rule(0, term(n), name(n)), rule(n, name(0), name(n))),
					with(terms, names, rule(0, manySyms(30, name(n))...)),
				} {
					s, e := sets.Of(g)
					if gram.May(g) != (e == api.OK) || e != api.OK && (e != api.ErrForm || len(s.Null)+len(s.First)+len(s.Follow) > 0) {
						t.Fatalf("%v: %v %v", g, s, e)
					}
				}
			}
		}
	}
}
