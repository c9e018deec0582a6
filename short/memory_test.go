package short_test

import (
	"math"
	"slices"
	"testing"

	"pollarding/api"
	"pollarding/gram"
	"pollarding/short"
)

// roomy has, behind the lengths of its lists, rules and symbols by which all else would be told.
func roomy() api.Grammar {
	g := with(3, 4)
	for _, r := range []api.Rule{
		rule(0, name(1), term(0), name(2)), rule(1, name(2), name(1)), rule(1, tokens(4)...), rule(2, tokens(2)...),
	} {
		right := append(make([]api.Sym, 0, 12), r.Right...)
		rest := right[len(right):12]
		for i := range rest {
			rest[i] = term(2)
		}
		g.Rules = append(g.Rules, api.Rule{Left: r.Left, Right: right})
	}
	behind := append(g.Rules, rule(0), rule(3, term(0)), rule(1))
	g.Rules = behind[:4]
	return g
}

func roomyTold() []int { return []int{7, 4, 2, -1} }

// P3: what is handed in stays as it is, and what lies behind the lists' lengths is neither read nor written.
func TestHandedInStays(t *testing.T) {
	g := roomy()
	was := copied(g)
	if got := asked(t, g); !slices.Equal(got, roomyTold()) {
		t.Error(got)
	}
	if !same(g, was) {
		t.Error("what was handed in has changed", g)
	}
	for _, r := range g.Rules {
		for _, s := range r.Right[len(r.Right):12] {
			if s != term(2) {
				t.Error("what lies behind a Right has changed", s)
			}
		}
	}
	behind := with(3, 4, g.Rules[:7][4:]...)
	if !same(behind, with(3, 4, rule(0), rule(3, term(0)), rule(1))) {
		t.Error("what lies behind the rules has changed", behind)
	}
}

// P3: an answer shares memory with no other one, and hangs on nothing that was done to an earlier one.
func TestAnswersAreNew(t *testing.T) {
	g := roomy()
	one, other := asked(t, g), asked(t, g)
	one = one[:cap(one)]
	for i := range one {
		one[i] = 77
	}
	if !slices.Equal(other, roomyTold()) || slices.Contains(other[:cap(other)], 77) {
		t.Error("two answers share memory:", other)
	}
	if got := asked(t, g); !slices.Equal(got, roomyTold()) {
		t.Error("an answer hangs on what was done to an earlier one:", got)
	}
}

// P3: an answer hangs on nothing that is done to what was handed in later on.
func TestHandedInIsNotKept(t *testing.T) {
	g := roomy()
	kept := asked(t, g)
	g.Rules[0], g.Rules[3].Left = rule(3, name(3)), 3
	if !slices.Equal(kept, roomyTold()) {
		t.Error(kept)
	}
	if got := asked(t, g); !slices.Equal(got, []int{-1, 4, -1, 2}) {
		t.Error("an answer hangs on an earlier grammar:", got)
	}
}

// P3: lists that are nil and lists that are empty are the same.
func TestNilOrEmpty(t *testing.T) {
	wantTold(t, []toldCase{
		{"nil rules", api.Grammar{Terms: 1, Names: 1}, []int{-1}},
		{"empty rules", api.Grammar{Terms: 1, Names: 1, Rules: []api.Rule{}}, []int{-1}},
		{"a nil Right", with(1, 1, api.Rule{Right: nil}), []int{0}},
		{"an empty Right", with(1, 1, api.Rule{Right: []api.Sym{}}), []int{0}},
	})
}

// P1 and P2: no grammar makes a call panic, and those alone are told of that may be.
func TestNothingPanics(t *testing.T) {
	wild := []int{math.MinInt, -1, 0, 1, 2, api.MaxNames + 1, math.MaxInt}
	for _, terms := range wild {
		for _, names := range wild {
			for _, n := range wild {
				for _, g := range []api.Grammar{
					with(terms, names),
					with(terms, names, rule(n)),
					with(terms, names, rule(0, name(n), term(n)), rule(0)),
					with(terms, names, rule(0, term(n), name(n)), rule(n, name(0), name(n))),
					with(terms, names, rule(0, manySyms(30, name(n))...)),
				} {
					got, e := short.Of(g)
					if gram.May(g) != (e == api.OK) || e == api.OK && len(got) != names || e != api.OK && (e != api.ErrForm || len(got) > 0) {
						t.Fatalf("%v: %v %v", g, got, e)
					}
				}
			}
		}
	}
}
