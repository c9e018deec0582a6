package recog_test

import (
	"slices"
	"testing"

	"pollarding/api"
	"pollarding/gram"
)

// eachDerivation calls do with the derivations of the name 0, of at most that many rules.
func eachDerivation(g api.Grammar, longest int, do func(d []int)) {
	var derive func(d []int, open []api.Sym)
	derive = func(d []int, open []api.Sym) {
		for len(open) > 0 && open[0].Term {
			open = open[1:]
		}
		if len(open) == 0 {
			do(d)
			return
		}
		if len(d) == longest {
			return
		}
		for i, r := range g.Rules {
			if r.Left == open[0].N {
				derive(append(d[:len(d):len(d)], i), append(append([]api.Sym{}, r.Right...), open[1:]...))
			}
		}
	}
	derive(nil, []api.Sym{name(0)})
}

// E1, the one way: what a derivation yields is had.
func TestYieldedIsHad(t *testing.T) {
	looked := 0
	eachSmall(func(g api.Grammar) {
		eachDerivation(g, 4, func(d []int) {
			tokens, ok := gram.Yield(g, d)
			if !ok {
				t.Fatalf("%v: %v is no derivation", g, d)
			}
			if !asked(t, g, tokens) {
				t.Fatalf("%v: the derivation %v yields %v, which is not had", g, d, tokens)
			}
			looked++
		})
	})
	if looked < 10000 {
		t.Error("too few derivations were looked at:", looked)
	}
}

// found is a derivation of each list of tokens that a name yields.
type found map[string][]int

// put keeps the shorter derivation, so that it is of no account in which order a map is gone through.
func (f found) put(s string, d []int) {
	if was, ok := f[s]; !ok || len(d) < len(was) {
		f[s] = d
	}
}

// yields goes through the yields of all names, of at most so many tokens, until there is none that is new. What yields so many has nothing within it that yields more, so none is left out.
func yields(g api.Grammar, most int) found {
	of := make([]found, g.Names)
	for n := range of {
		of[n] = found{}
	}
	for grown := true; grown; {
		grown = false
		for i, r := range g.Rules {
			for s, d := range rightYields(of, r.Right, most) {
				if of[r.Left][s] == nil {
					of[r.Left][s] = append([]int{i}, d...)
					grown = true
				}
			}
		}
	}
	return of[0]
}

// rightYields puts together what the symbols of a Right yield, with the derivations of its names.
func rightYields(of []found, right []api.Sym, most int) found {
	out := found{"": {}}
	for _, sym := range right {
		each := found{string(rune('0' + sym.N)): {}}
		if !sym.Term {
			each = of[sym.N]
		}
		next := found{}
		for s, d := range out {
			for add, more := range each {
				if len(s)+len(add) <= most {
					next.put(s+add, slices.Concat(d, more))
				}
			}
		}
		out = next
	}
	return out
}

// E1, both ways: of all short lists of tokens those are had, and no others, that a derivation yields.
func TestHadIsYielded(t *testing.T) {
	had, hasNot := 0, 0
	eachSmall(func(g api.Grammar) {
		most := []int{0, 6, 4, 3}[g.Terms]
		of := yields(g, most)
		eachTokens(g.Terms, most, func(tokens []int) {
			d, ok := of[textOf(tokens)]
			if got := asked(t, g, tokens); got != ok {
				t.Fatalf("%v: %v: %v, not %v: the derivation is %v", g, tokens, got, ok, d)
			}
			if !ok {
				hasNot++
				return
			}
			had++
			if yield, is := gram.Yield(g, d); !is || !slices.Equal(yield, tokens) {
				t.Fatalf("%v: the derivation %v yields %v %v, not %v", g, d, yield, is, tokens)
			}
		})
	})
	if had < 5000 || hasNot < 5000 {
		t.Error("too few lists of tokens were looked at:", had, hasNot)
	}
}

func textOf(tokens []int) string {
	if len(tokens) == 0 {
		return ""
	}
	return written(tokens)
}
