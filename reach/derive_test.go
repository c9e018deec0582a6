package reach_test

import (
	"slices"
	"testing"

	"pollarding/api"
	"pollarding/gram"
	"pollarding/reach"
)

// eachDerivation calls do with the derivations of the name 0, of at most that many rules.
func eachDerivation(g api.Grammar, most int, do func(d []int)) {
	var derive func(d []int, open []api.Sym)
	derive = func(d []int, open []api.Sym) {
		for len(open) > 0 && open[0].Term {
			open = open[1:]
		}
		if len(open) == 0 {
			do(d)
			return
		}
		if len(d) == most {
			return
		}
		for i, r := range g.Rules {
			if r.Left == open[0].N {
				derive(append(d[:len(d):len(d)], i), append(append([]api.Sym{}, r.Right...), open[1:]...))
			}
		}
	}
	derive(nil, []api.Sym{name(0)})
}

// wantOfUse holds the rules of a derivation of the name 0 against C2's words.
func wantOfUse(t *testing.T, g api.Grammar, d []int) {
	t.Helper()
	if _, ok := gram.Yield(g, d); !ok {
		t.Fatalf("%v: %v is no derivation", g, d)
	}
	makes, comes := asked(t, reach.Makes, g), asked(t, reach.Comes, g)
	for _, i := range d {
		if n := g.Rules[i].Left; !makes[n] || !comes[n] {
			t.Fatalf("%v: the name %d is in the derivation %v: it makes: %v, comes: %v", g, n, d, makes[n], comes[n])
		}
	}
}

// C2, on derivations of a grammar that has names and rules of no use too.
func TestOfUse(t *testing.T) {
	g := with(3, 6,
		rule(0, name(1), term(0), name(2)), // 0
		rule(0, name(4)),                   // 1: 4 does not make
		rule(1, name(3), name(1)),          // 2
		rule(1),                            // 3
		rule(2, term(1), name(0)),          // 4
		rule(2, name(3), name(3)),          // 5
		rule(3, term(2)),                   // 6
		rule(4, term(0), name(4)),          // 7
		rule(5, name(0), name(1)),          // 8: nothing comes to 5
	)
	for _, d := range [][]int{
		{0, 3, 5, 6, 6},
		{0, 2, 6, 3, 5, 6, 6},
		{0, 2, 6, 2, 6, 3, 5, 6, 6},
		{0, 3, 4, 0, 3, 5, 6, 6},
		{0, 2, 6, 3, 4, 0, 2, 6, 3, 5, 6, 6},
	} {
		wantOfUse(t, g, d)
	}
	if got := told(t, g); got != "01235/0123/" {
		t.Error("what no derivation has is of no use:", got)
	}
}

// C2: a derivation of MaxSteps rules, whose last one has a name that stands nowhere else in it.
func TestOfUseLong(t *testing.T) {
	g := with(1, 3, rule(0, term(0), name(0)), rule(0, name(1)), rule(1, name(2)), rule(2))
	d := append(make([]int, api.MaxSteps-3), 1, 2, 3)
	if len(d) != api.MaxSteps {
		t.Fatal(len(d))
	}
	wantOfUse(t, g, d)
}

// C2: a derivation that goes down through all names.
func TestOfUseDeep(t *testing.T) {
	g := with(0, api.MaxNames)
	var d []int
	for n := range api.MaxNames - 1 {
		d = append(d, n)
		g.Rules = append(g.Rules, rule(n, name(n+1)))
	}
	g.Rules = append(g.Rules, rule(api.MaxNames-1))
	wantOfUse(t, g, append(d, api.MaxNames-1))
}

// C2, on the short derivations of many small grammars, some of whose names are of no use.
func TestOfUseSmall(t *testing.T) {
	looked := 0
	eachSmall(func(g api.Grammar) {
		if slices.Contains(asked(t, reach.Comes, g), false) {
			eachDerivation(g, 5, func(d []int) {
				wantOfUse(t, g, d)
				looked++
			})
		}
	})
	if looked < 1000 {
		t.Error("too few derivations were looked at:", looked)
	}
}

// The other way round: of each name that makes there is a derivation, and each one that comes stands in a derivation of the name 0.
func TestUseIsSeen(t *testing.T) {
	eachSmall(func(g api.Grammar) {
		makes, comes := asked(t, reach.Makes, g), asked(t, reach.Comes, g)
		small := smallest(g)
		around := surroundings(g, small)
		for n := range g.Names {
			if makes[n] != (small[n] != nil) {
				t.Fatalf("%v: the name %d makes: %v; a derivation: %v", g, n, makes[n], small[n])
			}
			if comes[n] != (around[n] != nil) {
				t.Fatalf("%v: the name %d comes: %v; what may stand around it: %v", g, n, comes[n], around[n])
			}
			if comes[n] {
				wantOfUse(t, g, slices.Concat(around[n].ahead, small[n], around[n].behind))
			}
		}
	})
}

// smallest answers a derivation of each name that has one, with no name below itself.
func smallest(g api.Grammar) [][]int {
	out := make([][]int, g.Names)
	for range g.Names {
		was := slices.Clone(out)
		for i, r := range g.Rules {
			if below, ok := derived(was, r.Right); ok && out[r.Left] == nil {
				out[r.Left] = append([]int{i}, below...)
			}
		}
	}
	return out
}

// derived puts together the derivations of the names of syms, if each has one.
func derived(of [][]int, syms []api.Sym) ([]int, bool) {
	var out []int
	for _, s := range syms {
		if s.Term {
			continue
		}
		if of[s.N] == nil {
			return nil, false
		}
		out = append(out, of[s.N]...)
	}
	return out, true
}

// surrounding is what stands ahead of a name's derivation, and behind it, in one of the name 0.
type surrounding struct{ ahead, behind []int }

func surroundings(g api.Grammar, small [][]int) []*surrounding {
	out := make([]*surrounding, g.Names)
	if small[0] == nil {
		return out
	}
	out[0] = &surrounding{}
	for range g.Names {
		for i, r := range g.Rules {
			around := out[r.Left]
			if _, ok := derived(small, r.Right); !ok || around == nil {
				continue
			}
			for k, s := range r.Right {
				if s.Term || out[s.N] != nil {
					continue
				}
				left, _ := derived(small, r.Right[:k])
				right, _ := derived(small, r.Right[k+1:])
				out[s.N] = &surrounding{slices.Concat(around.ahead, []int{i}, left), slices.Concat(right, around.behind)}
			}
		}
	}
	return out
}
