package gram_test

import (
	"math"
	"slices"
	"testing"

	"pollarding/api"
	"pollarding/gram"
)

// A2 and A3: derivations of the chapter's grammar, and of one with several names.
func TestDerivations(t *testing.T) {
	wantDerivation(t, chapter(), []int{1}, nil, []api.Span{{Rule: 1}})
	wantDerivation(t, chapter(), []int{0, 0, 1}, []int{0, 0}, []api.Span{
		{Rule: 0, From: 0, To: 2}, {Rule: 0, From: 1, To: 2}, {Rule: 1, From: 2, To: 2},
	})
	wantDerivation(t, several(), []int{5, 4}, []int{2}, []api.Span{
		{Rule: 5, From: 0, To: 1}, {Rule: 4, From: 0, To: 1},
	})
	wantDerivation(t, several(), []int{5, 3, 2, 2}, nil, []api.Span{
		{Rule: 5}, {Rule: 3}, {Rule: 2}, {Rule: 2},
	})
	wantDerivation(t, several(), []int{0, 1, 1, 2, 3, 2, 1, 2}, []int{0, 0, 1, 1, 2, 0, 1}, []api.Span{
		{Rule: 0, From: 0, To: 7},
		{Rule: 1, From: 0, To: 4}, {Rule: 1, From: 1, To: 3}, {Rule: 2, From: 2, To: 2},
		{Rule: 3, From: 5, To: 7}, {Rule: 2, From: 5, To: 5}, {Rule: 1, From: 5, To: 7}, {Rule: 2, From: 6, To: 6},
	})
}

// A2 and A3: lists that are no derivation.
func TestNoDerivations(t *testing.T) {
	for _, d := range [][]int{
		nil, {}, // empty
		{0}, {0, 0, 0}, // end too early
		{1, 1}, {0, 1, 0}, {0, 0, 1, 1}, {1, 7}, {1, -1}, // something is left behind
		{2}, {-1}, {0, 2}, {0, -1}, {0, 0, 2}, {math.MaxInt}, {math.MinInt}, {0, math.MaxInt}, // no rules' numbers
	} {
		wantNone(t, chapter(), d)
	}
	for _, d := range [][]int{
		{1, 2}, {2}, {4}, {3, 2, 2}, // the first rule is of another name than 0
		{5, 2}, {5, 0}, {0, 4, 4}, {0, 2, 2}, {5, 3, 4, 2}, {0, 1, 3, 2, 2, 4}, // a later one is of another name than what stands there
		{0}, {0, 2}, {0, 1}, {5, 3}, {5, 3, 2}, // end too early
		{5, 4, 4}, {5, 4, 5, 4}, {0, 2, 4, 2}, // something is left behind
		{0, 4, 2},   // the right rules in another order
		{5, 6}, {6}, // no rule's number
	} {
		wantNone(t, several(), d)
	}
	wantNone(t, with(1, 1), []int{0})
	wantNone(t, with(1, 1), nil)
	wantNone(t, with(1, 2, rule(1)), []int{0})
}

// A2: a list of MaxSteps rules, one within the other, and one of a rule more.
func TestStepsDeep(t *testing.T) {
	deep := func(steps int) []int {
		return append(make([]int, steps-1), 1)
	}
	var spans []api.Span
	for i := range api.MaxSteps {
		spans = append(spans, api.Span{From: i, To: api.MaxSteps - 1})
	}
	spans[api.MaxSteps-1].Rule = 1
	wantDerivation(t, chapter(), deep(api.MaxSteps), make([]int, api.MaxSteps-1), spans)
	wantNone(t, chapter(), deep(api.MaxSteps+1))
	wantNone(t, chapter(), make([]int, api.MaxSteps))
	wantNone(t, chapter(), make([]int, 100000))
}

// A2: likewise, with rules beside one another.
func TestStepsWide(t *testing.T) {
	var d, yield []int
	for range 49 {
		d = append(d, 0, 2, 2, 2, 2, 2, 2, 2)
		yield = append(yield, 1, 1, 1, 1, 1, 1, 1)
	}
	pad := wide()
	pad.Rules = append(pad.Rules, rule(0, name(0)))
	for len(d) < api.MaxSteps-1 {
		d = append(d, 3)
	}
	d = append(d, 1)
	if y, ok := gram.Yield(pad, d); len(d) != api.MaxSteps || !ok || !slices.Equal(y, yield) {
		t.Error(len(d), y, ok)
	}
	if s, ok := gram.Spans(pad, d); !ok || len(s) != api.MaxSteps || s[8] != (api.Span{From: 7, To: len(yield)}) || s[15] != (api.Span{Rule: 2, From: 13, To: 14}) {
		t.Error(s, ok)
	}
	wantNone(t, pad, slices.Insert(slices.Clone(d), api.MaxSteps-1, 3))
}

// byStack says by a stack of symbols, without a tree, whether d is a derivation of the name 0, and what it yields.
func byStack(g api.Grammar, d []int) ([]int, bool) {
	stack := []api.Sym{name(0)}
	var yield []int
	for len(stack) > 0 {
		s := stack[len(stack)-1]
		stack = stack[:len(stack)-1]
		if s.Term {
			yield = append(yield, s.N)
			continue
		}
		if len(d) == 0 || d[0] < 0 || d[0] >= len(g.Rules) || g.Rules[d[0]].Left != s.N {
			return nil, false
		}
		right := slices.Clone(g.Rules[d[0]].Right)
		slices.Reverse(right)
		stack, d = append(stack, right...), d[1:]
	}
	if len(d) > 0 {
		return nil, false
	}
	return yield, true
}

// eachList calls do with all lists of up to most numbers from -1 to beyond the last rule's.
func eachList(rules, most int, do func(d []int)) {
	var grow func(d []int)
	grow = func(d []int) {
		do(d)
		if len(d) == most {
			return
		}
		for r := -1; r <= rules; r++ {
			grow(append(d, r))
		}
	}
	grow(make([]int, 0, most))
}

// A2, on all short lists, against byStack.
func TestAllShortLists(t *testing.T) {
	for _, c := range []struct {
		g    api.Grammar
		most int
	}{{chapter(), 7}, {several(), 6}, {wide(), 6}} {
		found := 0
		eachList(len(c.g.Rules), c.most, func(d []int) {
			want, isOne := byStack(c.g, d)
			y, ok := gram.Yield(c.g, d)
			if ok != isOne || !slices.Equal(y, want) {
				t.Fatalf("Yield of %v: %v %v, not %v %v", d, y, ok, want, isOne)
			}
			checkSpans(t, c.g, d, y, ok)
			if ok {
				found++
			}
		})
		if found == 0 {
			t.Error("no derivation was looked at")
		}
	}
}

// checkSpans holds the spans of d against A3's words, each on its own: what a rule has become is what the part of d that begins with it yields.
func checkSpans(t *testing.T, g api.Grammar, d, yield []int, isOne bool) {
	t.Helper()
	spans, ok := gram.Spans(g, d)
	if ok != isOne || !ok && len(spans) > 0 || ok && len(spans) != len(d) {
		t.Fatalf("Spans of %v: %v %v", d, spans, ok)
	}
	for i, s := range spans {
		part, isPart := partYield(g, d[i:])
		from := tokensAhead(g, d, i)
		if !isPart || s != (api.Span{Rule: d[i], From: from, To: from + len(part)}) || !slices.Equal(yield[s.From:s.To], part) {
			t.Fatalf("Spans of %v: the span %d is %v", d, i, s)
		}
	}
}

// partYield answers the yield of the derivation that d begins with, of whatever name it is.
func partYield(g api.Grammar, d []int) ([]int, bool) {
	swapped := startingAt(g, g.Rules[d[0]].Left)
	for n := 1; n <= len(d); n++ {
		if y, ok := byStack(swapped, d[:n]); ok {
			return y, true
		}
	}
	return nil, false
}

// startingAt swaps the name n with the name 0.
func startingAt(g api.Grammar, n int) api.Grammar {
	swap := func(at *int) {
		switch *at {
		case 0:
			*at = n
		case n:
			*at = 0
		}
	}
	out := copied(g)
	for i := range out.Rules {
		swap(&out.Rules[i].Left)
		for k := range out.Rules[i].Right {
			if !out.Rules[i].Right[k].Term {
				swap(&out.Rules[i].Right[k].N)
			}
		}
	}
	return out
}

// tokensAhead answers how many terms a stack of symbols has given up when it comes to the rule i of d.
func tokensAhead(g api.Grammar, d []int, i int) int {
	stack := []api.Sym{name(0)}
	ahead := 0
	for {
		s := stack[len(stack)-1]
		stack = stack[:len(stack)-1]
		if s.Term {
			ahead++
			continue
		}
		if i == 0 {
			return ahead
		}
		right := slices.Clone(g.Rules[d[0]].Right)
		slices.Reverse(right)
		stack, d, i = append(stack, right...), d[1:], i-1
	}
}
