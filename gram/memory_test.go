package gram_test

import (
	"math"
	"slices"
	"testing"

	"pollarding/api"
	"pollarding/gram"
)

// P3: what is handed in stays as it is, also behind the lists' lengths.
func TestHandedInStays(t *testing.T) {
	g := several()
	for i, r := range g.Rules {
		roomy := append(make([]api.Sym, 0, 20), r.Right...)
		rest := roomy[len(roomy):20]
		for k := range rest {
			rest[k] = term(77)
		}
		g.Rules[i].Right = roomy
	}
	was := copied(g)
	room := []int{0, 1, 2, 4, 5, 5, 5}
	for _, n := range []int{4, 3, 5} {
		d := room[:n]
		gram.May(g)
		gram.Yield(g, d)
		gram.Spans(g, d)
	}
	if !same(g, was) || !slices.Equal(room, []int{0, 1, 2, 4, 5, 5, 5}) {
		t.Error("what was handed in has changed", g, room)
	}
	for _, r := range g.Rules {
		for _, s := range r.Right[len(r.Right):20] {
			if s != term(77) {
				t.Error("what lies behind a Right has changed", s)
			}
		}
	}
}

// P3: answers share nothing with what was handed in, or with one another.
func TestAnswersAreNew(t *testing.T) {
	g, d := several(), []int{0, 1, 2, 4}
	y, _ := gram.Yield(g, d)
	s, _ := gram.Spans(g, d)
	for i := range y {
		y[i] = 55
	}
	for i := range s {
		s[i] = api.Span{Rule: 55, From: 55, To: 55}
	}
	if !same(g, several()) || !slices.Equal(d, []int{0, 1, 2, 4}) {
		t.Error("an answer shares memory with what was handed in", g, d)
	}
	wantDerivation(t, g, d, []int{0, 1, 2, 2}, []api.Span{
		{Rule: 0, From: 0, To: 4}, {Rule: 1, From: 0, To: 2}, {Rule: 2, From: 1, To: 1}, {Rule: 4, From: 3, To: 4},
	})
	again, _ := gram.Yield(g, d)
	d[0] = 5
	g.Rules[1].Right[0].N = 2
	if !slices.Equal(again, []int{0, 1, 2, 2}) {
		t.Error("an answer hangs on what was handed in", again)
	}
}

// P1 and P2: no grammar and no list makes a call panic, and where there is no yield nothing comes out.
func TestNothingPanics(t *testing.T) {
	wild := []int{math.MinInt, -1, 0, 1, 2, math.MaxInt}
	for _, n := range wild {
		for _, m := range wild {
			g := api.Grammar{Terms: n, Names: m, Rules: []api.Rule{
				rule(0, term(n), name(m)),
				rule(m, term(m), name(n)),
				rule(n, manySyms(30, name(0))...),
				rule(0, manySyms(30, term(n))...),
			}}
			gram.May(g)
			eachList(len(g.Rules), 4, func(d []int) { checkAgree(t, g, d) })
			for _, d := range [][]int{{n}, {m, n}, {0, n}, {0, 0, m}, make([]int, 5000)} {
				checkAgree(t, g, d)
			}
		}
	}
}

// checkAgree asks what holds of any grammar: Yield and Spans say the same of a list, and nothing else where it is none.
func checkAgree(t *testing.T, g api.Grammar, d []int) {
	t.Helper()
	y, isOne := gram.Yield(g, d)
	s, ok := gram.Spans(g, d)
	if isOne != ok || !ok && len(y)+len(s) > 0 || ok && s[0].To != len(y) {
		t.Fatalf("%v, of %v: %v %v, %v %v", d, g, y, isOne, s, ok)
	}
}
