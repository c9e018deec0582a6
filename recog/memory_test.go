package recog_test

import (
	"math"
	"slices"
	"testing"

	"pollarding/api"
	"pollarding/gram"
	"pollarding/recog"
)

// roomy has, behind the lengths of its lists, rules and symbols by which it would have other tokens.
func roomy() api.Grammar {
	g := with(3, 3)
	for _, r := range []api.Rule{
		rule(0, name(1), term(0), name(2)), rule(1, name(2), term(1)), rule(1), rule(2), rule(2, term(1)),
	} {
		right := append(make([]api.Sym, 0, 12), r.Right...)
		rest := right[len(right):12]
		for i := range rest {
			rest[i] = term(2)
		}
		g.Rules = append(g.Rules, api.Rule{Left: r.Left, Right: right})
	}
	behind := append(g.Rules, rule(0, term(2)), rule(0), rule(2, term(0)))
	g.Rules = behind[:5]
	return g
}

const roomyHas = "0 01 10 101 110 1101"

// P3: what is handed in stays as it is, and what lies behind the lists' lengths is neither read nor written.
func TestHandedInStays(t *testing.T) {
	g := roomy()
	was := copied(g)
	wantHas(t, []hasCase{{"with more behind its lists", g, 5, roomyHas}})
	if !same(g, was) {
		t.Error("what was handed in has changed", g)
	}
	for _, r := range g.Rules {
		for _, s := range r.Right[len(r.Right):12] {
			if s != term(2) {
				t.Error("what lies behind a Right has changed", s)
			}
		}
	}
	behind := with(3, 3, g.Rules[:8][5:]...)
	if !same(behind, with(3, 3, rule(0, term(2)), rule(0), rule(2, term(0)))) {
		t.Error("what lies behind the rules has changed", behind)
	}
}

// P3: likewise of the tokens. (What lies behind them would be too many, or no terms.)
func TestTokensStay(t *testing.T) {
	room := append(many(api.MaxTokens, 1), -1, 7, 1)
	for n := range api.MaxTokens + 1 {
		if !asked(t, all(2), room[:n]) {
			t.Errorf("%d tokens, and others behind them: not had", n)
		}
	}
	g := with(3, 1, rule(0, term(1), term(1)))
	for n := range 5 {
		if got := asked(t, g, room[:n]); got != (n == 2) {
			t.Errorf("%d tokens, and others behind them: %v", n, got)
		}
	}
	wantError(t, "one beyond the terms", all(2), room[29:32:32], api.ErrRange)
	wantError(t, "too many", all(2), room, api.ErrSize)
	if !slices.Equal(room, append(many(api.MaxTokens, 1), -1, 7, 1)) {
		t.Error("what was handed in has changed", room)
	}
}

// P3: an answer hangs on its arguments alone, not on what was asked earlier, or was handed in then.
func TestNothingIsKept(t *testing.T) {
	g, tokens := roomy(), []int{1, 1, 0, 1}
	for range 50 {
		if !asked(t, g, tokens) || asked(t, g, tokens[1:3:3]) != true || asked(t, g, tokens[:2]) {
			t.Fatal("the same arguments, and another answer")
		}
	}
	tokens[1] = 2
	if asked(t, g, tokens) {
		t.Error("an answer hangs on earlier tokens")
	}
	g.Rules[4].Right[0] = term(2)
	if !asked(t, g, []int{2, 1, 0, 2}) || asked(t, g, []int{1, 1, 0, 1}) {
		t.Error("an answer hangs on an earlier grammar")
	}
}

// P3: lists that are nil and lists that are empty are the same.
func TestNilOrEmpty(t *testing.T) {
	for _, tokens := range [][]int{nil, {}} {
		for _, rules := range [][]api.Rule{nil, {}} {
			if asked(t, api.Grammar{Terms: 1, Names: 1, Rules: rules}, tokens) {
				t.Error("without rules no tokens are had")
			}
		}
		for _, right := range [][]api.Sym{nil, {}} {
			if !asked(t, with(1, 1, api.Rule{Right: right}), tokens) {
				t.Error("no tokens are not had by a rule without symbols")
			}
		}
	}
}

// P1 and P2: no arguments make a call panic, and what is told is the first that applies.
func TestNothingPanics(t *testing.T) {
	wild := []int{math.MinInt, -1, 0, 1, 2, api.MaxNames + 1, math.MaxInt}
	for _, terms := range wild {
		for _, names := range wild {
			for _, n := range wild {
				for _, g := range []api.Grammar{
					with(terms, names),
					with(terms, names, rule(n)),
					with(terms, names, rule(0, name(n), term(n)), rule(0)),
					with(terms, names, rule(0, term(n), name(n)), rule(n, name(0), name(n))),
					with(terms, names, rule(0, manySyms(30, name(n))...)),
				} {
					for _, tokens := range [][]int{nil, {n}, {0, n, 1}, many(30, n), many(31, n)} {
						wantFirst(t, g, tokens)
					}
				}
			}
		}
	}
}

// wantFirst holds the error against E1's words, in their order.
func wantFirst(t *testing.T, g api.Grammar, tokens []int) {
	t.Helper()
	want := api.OK
	switch {
	case !gram.May(g):
		want = api.ErrForm
	case len(tokens) > api.MaxTokens:
		want = api.ErrSize
	case slices.ContainsFunc(tokens, func(n int) bool { return n < 0 || n >= g.Terms }):
		want = api.ErrRange
	}
	if has, e := recog.Has(g, tokens); e != want || has && e != api.OK {
		t.Fatalf("%v, of %v: %v %v, not %v", g, tokens, has, e, want)
	}
}
