package step_test

import (
	"slices"
	"testing"

	"pollarding/api"
	"pollarding/gram"
	"pollarding/parse"
	"pollarding/recog"
	"pollarding/step"
)

// wantOver asks of a derivation d of g that Forward of it is one of h, with the same yield, and Back of that is d (H3).
func wantOver(t *testing.T, g, h api.Grammar, s api.Step, d []int) {
	t.Helper()
	to, ok := step.Forward(g, s, d)
	yield, is := gram.Yield(h, to)
	if !ok || !is || !slices.Equal(yield, yielded(t, g, d)) {
		t.Fatalf("%s, %v: Forward of %v: %v %v, which yields %v %v", told(g), s, d, to, ok, yield, is)
	}
	if got, ok := step.Back(g, s, to); !ok || !slices.Equal(got, d) {
		t.Fatalf("%s, %v: Back of %v: %v %v, not %v", told(g), s, to, got, ok, d)
	}
}

// wantBackOver asks the same the other way round, of a derivation d of h.
func wantBackOver(t *testing.T, g, h api.Grammar, s api.Step, d []int) {
	t.Helper()
	to, ok := step.Back(g, s, d)
	yield, is := gram.Yield(g, to)
	if !ok || !is || !slices.Equal(yield, yielded(t, h, d)) {
		t.Fatalf("%s, %v: Back of %v: %v %v, which yields %v %v", told(g), s, d, to, ok, yield, is)
	}
	if got, ok := step.Forward(g, s, to); !ok || !slices.Equal(got, d) {
		t.Fatalf("%s, %v: Forward of %v: %v %v, not %v", told(g), s, to, got, ok, d)
	}
}

// H3, on many small grammars, all steps, and short derivations, both ways.
func TestOverAndBack(t *testing.T) {
	over, back := map[int]int{}, map[int]int{}
	eachSmall(func(g api.Grammar) {
		all := derivations(g, 8)
		eachDone(g, func(s api.Step, h api.Grammar) {
			for _, d := range all {
				wantOver(t, g, h, s, d)
				over[s.Op]++
			}
			for _, d := range derivations(h, 8) {
				wantBackOver(t, g, h, s, d)
				back[s.Op]++
			}
		})
	})
	for op := api.SSwap; op <= api.SPrune; op++ {
		if over[op] < 1000 || back[op] < 1000 {
			t.Error("too few derivations were looked at:", over, back)
		}
	}
}

// someDerivation answers a derivation of at most so many rules, by numbers; or none, if it gets too long. Beyond half of them it takes the rules that end soonest.
func someDerivation(g api.Grammar, most int, below func(n int) int) []int {
	var d []int
	soonest := ends(g)
	open := []api.Sym{name(0)}
	for len(open) > 0 {
		next := open[0]
		open = open[1:]
		if next.Term {
			continue
		}
		of := numbersOf(g, next.N)
		if len(of) == 0 || len(d) == most {
			return nil
		}
		i := of[below(len(of))]
		if (len(d)+len(open))*2 > most && soonest[next.N] >= 0 {
			i = soonest[next.N]
		}
		d = append(d, i)
		open = slices.Concat(g.Rules[i].Right, open)
	}
	return d
}

// ends answers, of each name, a rule by which it comes to an end, or -1: those that were found earlier end sooner.
func ends(g api.Grammar) []int {
	out := slices.Repeat([]int{-1}, g.Names)
	for range g.Names {
		found := slices.Clone(out)
		for i, r := range g.Rules {
			isOpen := func(s api.Sym) bool { return !s.Term && out[s.N] < 0 }
			if found[r.Left] < 0 && !slices.ContainsFunc(r.Right, isOpen) {
				found[r.Left] = i
			}
		}
		out = found
	}
	return out
}

// H3, on derivations of up to 200 rules, of grammars of many names and rules.
func TestOverAndBackLong(t *testing.T) {
	below := numbers()
	over, back, longest := map[int]int{}, map[int]int{}, 0
	for range 300 {
		g := with(1+below(api.MaxTerms), 2+below(api.MaxNames-2))
		for i := range 2*g.Names + below(8) {
			r := rule(i % g.Names)
			for range below(5) {
				r.Right = append(r.Right, api.Sym{Term: below(5) < 3, N: below(min(g.Terms, g.Names))})
			}
			g.Rules = append(g.Rules, r)
		}
		// A rule that begins with its name, for SLeft; and one by which derivations get long.
		n := below(g.Names)
		g.Rules = append(g.Rules, rule(n, name(n), term(0)), rule(0, name(n), term(0), name(n), name(0)))
		for range 60 {
			s := api.Step{Op: 1 + below(api.SPrune), A: below(len(g.Rules)), B: below(5)}
			switch s.Op {
			case api.SExtract:
				s.C = s.B + 1 + below(4)
			case api.SLeft:
				s = left(n)
			case api.SPrune:
				s = prune()
			}
			h, e := step.Do(g, s)
			if e != api.OK {
				continue
			}
			if d := someDerivation(g, 200, below); d != nil {
				wantOver(t, g, h, s, d)
				over[s.Op]++
				longest = max(longest, len(d))
			}
			if d := someDerivation(h, 200, below); d != nil {
				wantBackOver(t, g, h, s, d)
				back[s.Op]++
			}
		}
	}
	for op := api.SSwap; op <= api.SPrune; op++ {
		if over[op] < 200 || back[op] < 200 || longest < 150 {
			t.Error("too few derivations were looked at:", over, back, longest)
		}
	}
}

// H3: g and what comes of it have the same tokens.
func TestSameTokens(t *testing.T) {
	looked, had := map[int]int{}, map[int]int{}
	eachSmall(func(g api.Grammar) {
		has := map[string]bool{}
		most := []int{0, 4, 3, 2}[g.Terms]
		eachTokens(g.Terms, most, func(tokens []int) { has[key(tokens)] = hasOf(t, g, tokens) })
		eachDone(g, func(s api.Step, h api.Grammar) {
			eachTokens(g.Terms, most, func(tokens []int) {
				want := has[key(tokens)]
				if got := hasOf(t, h, tokens); got != want {
					t.Fatalf("%s, %v: %v: %v of what comes of it, %v of it", told(g), s, tokens, got, want)
				}
				looked[s.Op]++
				if want {
					had[s.Op]++
				}
			})
		})
	})
	for op := api.SSwap; op <= api.SPrune; op++ {
		if had[op] < 200 || looked[op]-had[op] < 200 {
			t.Error("too few lists of tokens were looked at:", looked, had)
		}
	}
}

func key(tokens []int) string {
	var out []byte
	for _, n := range tokens {
		out = append(out, byte('0'+n))
	}
	return string(out)
}

func hasOf(t *testing.T, g api.Grammar, tokens []int) bool {
	t.Helper()
	has, e := recog.Has(g, tokens)
	if e != api.OK {
		t.Fatalf("Has of %s, %v: the error %v", told(g), tokens, e)
	}
	return has
}

// H3: where neither clashes, the parses are the same, carried over.
func TestSameParses(t *testing.T) {
	looked := map[int]int{}
	eachSmall(func(g api.Grammar) {
		if _, _, e := parse.Parse(g, nil); e != api.OK {
			return
		}
		eachDone(g, func(s api.Step, h api.Grammar) {
			if _, _, e := parse.Parse(h, nil); e != api.OK {
				return
			}
			eachTokens(g.Terms, []int{0, 4, 3, 2}[g.Terms], func(tokens []int) {
				d, at, e := parse.Parse(g, tokens)
				to, atThen, eThen := parse.Parse(h, tokens)
				if e != api.OK || eThen != api.OK || (at == -1) != (atThen == -1) {
					t.Fatalf("%s, %v: %v: %v %v %v, and %v %v %v", told(g), s, tokens, d, at, e, to, atThen, eThen)
				}
				if at == -1 {
					wantPair(t, told(g), g, s, d, to)
					looked[s.Op]++
				}
			})
		})
	})
	for op := api.SSwap; op <= api.SPrune; op++ {
		if looked[op] < 10 {
			t.Error("too few parses were looked at:", looked)
		}
	}
}
