package parse_test

import (
	"math"
	"slices"
	"testing"

	"pollarding/api"
	"pollarding/gram"
	"pollarding/parse"
	"pollarding/table"
)

// roomy has, behind the lengths of its lists, rules and symbols by which it would have other derivations, and clashes.
func roomy() api.Grammar {
	g := with(2, 2)
	for _, r := range []api.Rule{rule(0, name(1), term(0), name(0)), rule(0), rule(1, term(1)), rule(1)} {
		right := append(make([]api.Sym, 0, 12), r.Right...)
		rest := right[len(right):12]
		for i := range rest {
			rest[i] = term(1)
		}
		g.Rules = append(g.Rules, api.Rule{Left: r.Left, Right: right})
	}
	behind := append(g.Rules, rule(0), rule(1, term(1)))
	g.Rules = behind[:4]
	return g
}

// roomyCases are what Parse tells of roomy.
func roomyCases() []parseCase {
	return []parseCase{
		{nil, "is 1"}, {[]int{0}, "is 0 3 1"}, {[]int{1, 0}, "is 0 2 1"}, {[]int{0, 1, 0, 0}, "is 0 3 0 2 0 3 1"},
		{[]int{1}, "at 1"}, {[]int{1, 1}, "at 1"}, {[]int{0, 1}, "at 2"},
	}
}

// P3: what is handed in stays as it is, and what lies behind the lists' lengths is neither read nor written.
func TestHandedInStays(t *testing.T) {
	g := roomy()
	was := copied(g)
	wantAll(t, "with more behind its lists", g, roomyCases())
	if !same(g, was) {
		t.Error("what was handed in has changed", g)
	}
	for _, r := range g.Rules {
		for _, s := range r.Right[len(r.Right):12] {
			if s != term(1) {
				t.Error("what lies behind a Right has changed", s)
			}
		}
	}
	behind := with(2, 2, g.Rules[:6][4:]...)
	if !same(behind, with(2, 2, rule(0), rule(1, term(1)))) {
		t.Error("what lies behind the rules has changed", behind)
	}
}

// P3: likewise of the tokens. (What lies behind them would be too many, or no terms, or not done.)
func TestTokensStay(t *testing.T) {
	room := append(many(api.MaxTokens, 0), -1, 7, 1)
	for n := range api.MaxTokens + 1 {
		wantIs(t, "with more behind the tokens", chapterOf(2), room[:n], append(many(n, 0), 1))
	}
	mixed := []int{0, 0, 1, 9}
	wantIs(t, "with more behind the tokens", chapterOf(2), mixed[:2], []int{0, 0, 1})
	want(t, "with more behind the tokens", chapterOf(2), mixed[:3], "at 2")
	wantError(t, "with more behind the tokens", chapterOf(2), mixed, api.ErrRange)
	wantError(t, "too many", chapterOf(2), room, api.ErrSize)
	if !slices.Equal(room, append(many(api.MaxTokens, 0), -1, 7, 1)) || !slices.Equal(mixed, []int{0, 0, 1, 9}) {
		t.Error("what was handed in has changed", room, mixed)
	}
}

// P3: answers share nothing with what was handed in, or with one another.
func TestAnswersAreNew(t *testing.T) {
	g, tokens := roomy(), []int{0, 1, 0, 0}
	d, _, _ := parse.Parse(g, tokens)
	other, _, _ := parse.Parse(g, tokens)
	d = d[:cap(d)]
	for i := range d {
		d[i] = 55
	}
	if got := told(other, -1, api.OK); got != "is 0 3 0 2 0 3 1" {
		t.Error("two answers share memory:", got)
	}
	wantAll(t, "behind a change of an answer", g, roomyCases())
	if !same(g, roomy()) || !slices.Equal(tokens, []int{0, 1, 0, 0}) {
		t.Error("an answer shares memory with what was handed in", g, tokens)
	}
	g.Rules[2].Right[0] = term(0)
	tokens[1] = 0
	if got := told(other, -1, api.OK); got != "is 0 3 0 2 0 3 1" {
		t.Error("an answer hangs on what was handed in:", got)
	}
	wantError(t, "another grammar, with a clash", g, tokens, api.ErrClash)
}

// P3: the same arguments have the same answer, whatever was asked between.
func TestTheSameAgain(t *testing.T) {
	for range 20 {
		wantAll(t, "again", roomy(), roomyCases())
		want(t, "again", sums(), spelt("x+x*(x)"), "is 0 1 3 5 2 3 5 4 1 3 5")
		wantError(t, "again", padded(), many(6, 0), api.ErrSize)
	}
}

// P3: lists that are nil and lists that are empty are the same.
func TestNilOrEmpty(t *testing.T) {
	for _, tokens := range [][]int{nil, {}} {
		for _, rules := range [][]api.Rule{nil, {}} {
			want(t, "no rules", with(1, 1, rules...), tokens, "at 0")
		}
		for _, right := range [][]api.Sym{nil, {}} {
			want(t, "no symbols", with(1, 1, api.Rule{Right: right}), tokens, "is 0")
		}
	}
}

// P1 and P2: no arguments make a call panic, and what is told is the first that applies.
func TestNothingPanics(t *testing.T) {
	wild := []int{math.MinInt, -1, 0, 1, 2, api.MaxNames + 1, math.MaxInt}
	for _, terms := range wild {
		for _, names := range wild {
			for _, n := range wild {
				for _, g := range []api.Grammar{
					with(terms, names),
					with(terms, names, rule(n)),
					with(terms, names, rule(0, name(n), term(n)), rule(0)),
					with(terms, names, rule(0, term(n), name(n)), rule(n, name(0), name(n))),
					with(terms, names, rule(0, manySyms(30, name(n))...)),
				} {
					for _, tokens := range [][]int{nil, {n}, {0, n, 1}, many(30, n), many(31, n)} {
						want(t, "wild", g, tokens, first(t, g, tokens))
					}
				}
			}
		}
	}
}

// first answers the first that applies of G1's words, in their order; and what the table says, if none does.
func first(t *testing.T, g api.Grammar, tokens []int) string {
	t.Helper()
	if !gram.May(g) {
		return told(nil, 0, api.ErrForm)
	}
	if _, e := table.Of(g); e != api.OK || len(tokens) > api.MaxTokens {
		return told(nil, 0, api.ErrSize)
	}
	if slices.ContainsFunc(tokens, func(n int) bool { return n < 0 || n >= g.Terms }) {
		return told(nil, 0, api.ErrRange)
	}
	return byWords(t, g, tokens)
}
