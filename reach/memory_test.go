package reach_test

import (
	"math"
	"slices"
	"testing"

	"pollarding/api"
	"pollarding/gram"
)

// roomy has, behind the lengths of its lists, rules and symbols by which all else would be told.
func roomy() api.Grammar {
	g := with(3, 4)
	for _, r := range []api.Rule{
		rule(0, name(1), term(0), name(2)), rule(1, name(2), name(1)), rule(1, term(0)), rule(2),
	} {
		right := append(make([]api.Sym, 0, 12), r.Right...)
		rest := right[len(right):12]
		for i := range rest {
			rest[i] = name(3)
		}
		g.Rules = append(g.Rules, api.Rule{Left: r.Left, Right: right})
	}
	behind := append(g.Rules, rule(0, name(3)), rule(3, name(0)), rule(3))
	g.Rules = behind[:4]
	return g
}

const roomyTold = "012/012/1"

// P3: what is handed in stays as it is, and what lies behind the lists' lengths is neither read nor written.
func TestHandedInStays(t *testing.T) {
	g := roomy()
	was := copied(g)
	if got := told(t, g); got != roomyTold {
		t.Error(got)
	}
	if !same(g, was) {
		t.Error("what was handed in has changed", g)
	}
	for _, r := range g.Rules {
		for _, s := range r.Right[len(r.Right):12] {
			if s != name(3) {
				t.Error("what lies behind a Right has changed", s)
			}
		}
	}
	if behind := g.Rules[:7]; behind[4].Left != 0 || behind[5].Left != 3 || behind[6].Left != 3 || behind[4].Right[0] != name(3) || behind[5].Right[0] != name(0) {
		t.Error("what lies behind the rules has changed", behind)
	}
}

// P3: an answer shares memory with no other one.
func TestAnswersAreNew(t *testing.T) {
	g := roomy()
	var all [][]bool
	for _, ask := range askers() {
		for range 2 {
			set := asked(t, ask, g)
			all = append(all, set[:cap(set)])
		}
	}
	for i, one := range all {
		for _, l := range all {
			clear(l)
		}
		for k := range one {
			one[k] = true
		}
		for k, l := range all {
			if k != i && slices.Contains(l, true) {
				t.Fatalf("the answers %d and %d share memory", i, k)
			}
		}
	}
	if got := told(t, g); got != roomyTold {
		t.Error("an answer hangs on what was done to an earlier one:", got)
	}
}

// P3: an answer hangs on nothing that is done to what was handed in later on.
func TestHandedInIsNotKept(t *testing.T) {
	g := roomy()
	kept := map[string][]bool{}
	for who, ask := range askers() {
		kept[who] = asked(t, ask, g)
	}
	g.Rules[0], g.Rules[3].Left = rule(3, name(3)), 3
	if got := digits(kept["Makes"]) + "/" + digits(kept["Comes"]) + "/" + digits(kept["Left"]); got != roomyTold {
		t.Error(got)
	}
	if got := told(t, g); got != "13//3" {
		t.Error("an answer hangs on an earlier grammar:", got)
	}
}

// P3: lists that are nil and lists that are empty are the same.
func TestNilOrEmpty(t *testing.T) {
	for _, c := range []struct {
		rules []api.Rule
		want  string
	}{
		{nil, "//"},
		{[]api.Rule{}, "//"},
		{[]api.Rule{{Right: nil}, {Right: []api.Sym{name(0)}}}, "0/0/0"},
		{[]api.Rule{{Right: []api.Sym{}}, {Right: []api.Sym{name(0)}}}, "0/0/0"},
	} {
		if got := told(t, with(1, 1, c.rules...)); got != c.want {
			t.Errorf("%v: %s, not %s", c.rules, got, c.want)
		}
	}
}

// P1 and P2: no grammar makes a call panic, and each tells of those alone that may be.
func TestNothingPanics(t *testing.T) {
	wild := []int{math.MinInt, -1, 0, 1, 2, api.MaxNames + 1, math.MaxInt}
	for _, terms := range wild {
		for _, names := range wild {
			for _, n := range wild {
				for _, g := range []api.Grammar{
					with(terms, names),
					with(terms, names, rule(n)),
					with(terms, names, rule(0, name(n), term(n)), rule(0)),
					with(terms, names, rule(0, term(n), name(n)), rule(n, name(0), name(n))),
					with(terms, names, rule(0, manySyms(30, name(n))...)),
				} {
					for who, ask := range askers() {
						set, e := ask(g)
						if gram.May(g) != (e == api.OK) || e != api.OK && (e != api.ErrForm || len(set) > 0) {
							t.Fatalf("%s of %v: %v %v", who, g, set, e)
						}
					}
				}
			}
		}
	}
}
