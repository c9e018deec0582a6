package step_test

import (
	"math"
	"slices"
	"testing"

	"pollarding/api"
	"pollarding/step"
)

// sums has products in sums, at the left, and sums in brackets: t0 is the plus, t1 the times, t2 and t3 are the brackets.
func sums() api.Grammar {
	return spelt(5, 3, "0: 0 t0 1; 0: 1; 1: 1 t1 2; 1: 2; 2: t2 0 t3; 2: t4")
}

// nested has a rule 0 with the name 0 between two others.
func nested() api.Grammar {
	return spelt(2, 2, "0: 1 0 1; 0:; 1: t0; 1: t1")
}

// around has names by which the name 0 comes to itself.
func around() api.Grammar {
	return spelt(3, 3, "0: 1 t0 2; 1: 0; 1: t1; 2: 0; 2:; 0: t2")
}

type pair struct{ d, to []int }

func wantPairs(t *testing.T, what string, g api.Grammar, s api.Step, pairs []pair) {
	t.Helper()
	for _, p := range pairs {
		wantPair(t, what, g, s, p.d, p.to)
	}
}

// H2, worked out by hand: names change places, and rules keep their numbers.
func TestCarrySwap(t *testing.T) {
	for _, s := range []api.Step{swap(1, 2), swap(2, 1), swap(1, 1)} {
		wantPairs(t, "around", around(), s, []pair{{[]int{5}, []int{5}}, {[]int{0, 2, 4}, []int{0, 2, 4}}, {[]int{0, 1, 0, 2, 4, 3, 5}, []int{0, 1, 0, 2, 4, 3, 5}}})
	}
}

// H2, worked out by hand: a rule A has the new one within it.
func TestCarryExtract(t *testing.T) {
	chapter := spelt(1, 1, "0: t0 0; 0:")
	for _, s := range []api.Step{extract(0, 0, 1), extract(0, 1, 2), extract(0, 0, 2)} {
		wantPairs(t, "the chapter's", chapter, s, []pair{{[]int{1}, []int{1}}, {[]int{0, 1}, []int{0, 2, 1}}, {[]int{0, 0, 1}, []int{0, 2, 0, 2, 1}}})
	}
	d := []int{0, 2, 0, 3, 1, 2, 3}
	wantPair(t, "the first names", nested(), extract(0, 0, 2), d, []int{0, 4, 2, 0, 4, 3, 1, 2, 3})
	wantPair(t, "the last names", nested(), extract(0, 1, 3), d, []int{0, 2, 4, 0, 3, 4, 1, 2, 3})
	wantPair(t, "the last name", nested(), extract(0, 2, 3), d, []int{0, 2, 0, 3, 1, 4, 2, 4, 3})
	wantPair(t, "the name between", nested(), extract(0, 1, 2), d, []int{0, 2, 4, 0, 3, 4, 1, 2, 3})
	wantPair(t, "another rule", nested(), extract(3, 0, 1), d, []int{0, 2, 0, 3, 4, 1, 2, 3, 4})
	wantPair(t, "a term behind the name", spelt(2, 1, "0: 0 t0; 0: t1"), extract(0, 1, 2), []int{0, 0, 1}, []int{0, 0, 1, 2, 2})
}

// H2, worked out by hand: a rule A, and the one that its name became, are one.
func TestCarryInline(t *testing.T) {
	wantPairs(t, "two rules", spelt(2, 2, "0: t0 1; 1:; 1: t1"), inline(0, 1), []pair{{[]int{0, 1}, []int{0}}, {[]int{0, 2}, []int{1}}})
	d := []int{0, 1, 0, 2, 4, 3, 5}
	wantPair(t, "the first name", around(), inline(0, 0), d, []int{0, 1, 5, 4, 6})
	wantPair(t, "the last name", around(), inline(0, 2), d, []int{0, 2, 1, 3, 6})
	wantPair(t, "alone, the name 0", around(), inline(1, 0), d, []int{0, 1, 3, 5, 4, 6})
	wantPair(t, "alone, the name 0, in a later rule", around(), inline(3, 0), d, []int{0, 1, 0, 2, 5, 4})
	wantPairs(t, "rules that are the same", spelt(1, 2, "0: 1; 1: t0; 1: t0"), inline(0, 0), []pair{{[]int{0, 1}, []int{0}}, {[]int{0, 2}, []int{1}}})
	wantPairs(t, "a name of no rule", spelt(2, 2, "0: t0; 0: t0 1 t0; 0: t1"), inline(1, 1), []pair{{[]int{0}, []int{0}}, {[]int{2}, []int{1}}})
	wantPairs(t, "the name's rules on both sides", spelt(3, 2, "1: t0; 0: 1; 1: t1; 0: t2; 1:"), inline(1, 0), []pair{
		{[]int{1, 0}, []int{1}}, {[]int{1, 2}, []int{2}}, {[]int{1, 4}, []int{3}}, {[]int{3}, []int{5}},
	})
}

// H2, worked out by hand: of rules that begin with A, within one another, the innermost comes first, behind the one that ends them.
func TestCarryLeft(t *testing.T) {
	wantPairs(t, "sums", sums(), left(0), []pair{
		{[]int{1, 3, 5}, []int{1, 3, 5, 6}},
		{[]int{0, 1, 3, 5, 2, 3, 5, 5}, []int{1, 3, 5, 0, 2, 3, 5, 5, 6}},
		{[]int{0, 0, 1, 3, 5, 3, 5, 3, 5}, []int{1, 3, 5, 0, 3, 5, 0, 3, 5, 6}},
		{[]int{1, 3, 4, 1, 3, 5}, []int{1, 3, 4, 1, 3, 5, 6, 6}},
		{[]int{0, 1, 3, 4, 0, 1, 3, 5, 3, 5, 3, 5}, []int{1, 3, 4, 1, 3, 5, 0, 3, 5, 6, 0, 3, 5, 6}},
	})
	wantPairs(t, "products", sums(), left(1), []pair{
		{[]int{1, 3, 5}, []int{1, 3, 5, 6}},
		{[]int{1, 2, 2, 3, 5, 5, 5}, []int{1, 3, 5, 2, 5, 2, 5, 6}},
		{[]int{0, 1, 3, 5, 3, 5}, []int{0, 1, 3, 5, 6, 3, 5, 6}},
	})
	wantPairs(t, "the name again behind it", spelt(1, 1, "0: 0 0; 0: t0"), left(0), []pair{
		{[]int{1}, []int{1, 2}},
		{[]int{0, 0, 1, 1, 1}, []int{1, 0, 1, 2, 0, 1, 2, 2}},
		{[]int{0, 1, 0, 1, 1}, []int{1, 0, 1, 0, 1, 2, 2, 2}},
	})
	several := spelt(4, 1, "0: 0 t0; 0: t2; 0: 0 t1; 0: t3")
	wantPairs(t, "several rules, from the innermost on", several, left(0), []pair{
		{[]int{0, 2, 1}, []int{1, 2, 0, 4}}, {[]int{2, 0, 0, 3}, []int{3, 0, 0, 2, 4}},
	})
}

// H2, worked out by hand: rules get the numbers that they have among those that stay.
func TestCarryPrune(t *testing.T) {
	wantPairs(t, "rules between", spelt(2, 3, "0: t0; 0: 1 t0; 1: 1 t1; 0: 2; 2: t1"), prune(), []pair{{[]int{0}, []int{0}}, {[]int{3, 4}, []int{1, 2}}})
	wantPairs(t, "rules ahead", spelt(1, 3, "1: t0; 2:; 1: 2; 0: t0 0; 0:"), prune(), []pair{{[]int{4}, []int{1}}, {[]int{3, 3, 4}, []int{0, 0, 1}}})
}

// H2: lists that are no derivation are carried over neither the one way nor the other.
func TestNoDerivation(t *testing.T) {
	for _, s := range []api.Step{swap(1, 2), extract(0, 0, 2), extract(4, 1, 2), inline(1, 0), left(0), left(1), prune()} {
		for _, d := range [][]int{
			nil, {}, {0}, {1}, {-1}, {7}, {math.MaxInt}, {math.MinInt}, {3, 5}, {5}, {2, 3, 5, 5}, {6}, {6, 6},
			{1, 3, 5, 5}, {1, 3, 5, 1, 3, 5}, {1, 3, -1}, {1, 5, 3}, {0, 1, 3, 5}, many(api.MaxSteps, 0), many(100000, 0),
		} {
			wantNone(t, "no derivation", sums(), s, d)
		}
	}
}

// H2: a derivation of the one is none of the other, where the step changed its rules.
func TestOnlyOfTheOne(t *testing.T) {
	for _, c := range []struct {
		g     api.Grammar
		s     api.Step
		d, to []int
	}{
		{nested(), extract(0, 0, 2), []int{0, 2, 1, 2}, []int{0, 4, 2, 1, 2}},
		{around(), inline(0, 0), []int{0, 2, 4}, []int{1, 5}},
		{sums(), left(0), []int{1, 3, 5}, []int{1, 3, 5, 6}},
		{spelt(1, 2, "1:; 0: t0"), prune(), []int{1}, []int{0}},
	} {
		wantPair(t, "of the right one", c.g, c.s, c.d, c.to)
		if out, ok := step.Forward(c.g, c.s, c.to); ok || len(out) > 0 {
			t.Errorf("%s, %v: Forward of %v, which is no derivation of it: %v", told(c.g), c.s, c.to, out)
		}
		if out, ok := step.Back(c.g, c.s, c.d); ok || len(out) > 0 {
			t.Errorf("%s, %v: Back of %v, which is no derivation of what comes of it: %v", told(c.g), c.s, c.d, out)
		}
	}
}

// H2: where Do tells an error, no derivation is carried over.
func TestNoStep(t *testing.T) {
	d := []int{0, 1, 3, 5, 3, 5}
	for _, s := range []api.Step{
		{}, {Op: -1}, {Op: 6}, {Op: math.MaxInt}, swap(0, 1), swap(1, 3), {Op: api.SSwap, A: 1, B: 2, C: 1},
		extract(0, 1, 1), extract(6, 0, 1), extract(0, 2, 4), inline(0, 0), inline(0, 1), inline(0, 3), {Op: api.SInline, A: 1, C: 1},
		left(2), left(3), left(-1), {Op: api.SLeft, B: 1}, {Op: api.SPrune, C: 1},
	} {
		wantNone(t, "no step", sums(), s, d)
		wantError(t, "no step", sums(), s, api.ErrForm)
	}
	tooMuch := sums()
	tooMuch.Names = api.MaxNames
	for _, s := range []api.Step{extract(0, 0, 1), left(0)} {
		wantNone(t, "too much", tooMuch, s, d)
		wantError(t, "too much", tooMuch, s, api.ErrSize)
	}
	mayNot := sums()
	mayNot.Terms = api.MaxTerms + 1
	for _, s := range []api.Step{swap(1, 2), extract(0, 0, 1), inline(1, 0), left(0), prune()} {
		wantNone(t, "a grammar that may not be", mayNot, s, d)
		wantError(t, "a grammar that may not be", mayNot, s, api.ErrForm)
	}
	if !slices.Equal(d, []int{0, 1, 3, 5, 3, 5}) {
		t.Error("the derivation has changed", d)
	}
}
