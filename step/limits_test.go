package step_test

import (
	"math"
	"slices"
	"testing"

	"pollarding/api"
	"pollarding/step"
)

// H1: steps that are none, by each of its words, on both sides of what is one.
func TestErrForm(t *testing.T) {
	g := mixed() // four names, six rules; the rule 0 has four symbols
	wild := []int{math.MinInt, math.MinInt + 1, -2, -1, 12, 13, 40, 41, 256, 1 << 32, math.MaxInt - 1, math.MaxInt}
	for what, steps := range map[string][]api.Step{
		"no such step":                   {{}, {Op: -1}, {Op: 6}, {Op: 7, A: 1, B: 2}, {Op: math.MinInt}, {Op: math.MaxInt}, {Op: 256 + api.SPrune}, {A: 1, B: 2}},
		"the name 0":                     {swap(0, 1), swap(1, 0), swap(0, 0)},
		"no name":                        {swap(4, 1), swap(1, 4), swap(-1, 2), swap(2, -1), swap(4, 4)},
		"a C of a swap":                  {{Op: api.SSwap, A: 1, B: 2, C: 1}, {Op: api.SSwap, A: 1, B: 2, C: -1}},
		"no rule":                        {extract(-1, 0, 1), extract(6, 0, 1), inline(-1, 0), inline(6, 0)},
		"no symbols":                     {extract(0, 0, 0), extract(0, 2, 2), extract(0, 4, 4), extract(2, 0, 0)},
		"symbols from the wrong end":     {extract(0, 2, 1), extract(0, 4, 0)},
		"symbols ahead of the first one": {extract(0, -1, 1), extract(0, -2, -1), extract(0, -1, 0)},
		"symbols behind the last one":    {extract(0, 0, 5), extract(0, 3, 5), extract(0, 4, 5), extract(1, 0, 3), extract(2, 0, 1)},
		"no symbol":                      {inline(0, -1), inline(0, 4), inline(2, 0)},
		"a term":                         {inline(0, 1), inline(1, 0), inline(3, 0), inline(3, 2), inline(5, 1)},
		"the Left":                       {inline(1, 1), inline(3, 1)},
		"a C of an inline":               {{Op: api.SInline, A: 0, B: 0, C: 1}, {Op: api.SInline, A: 0, B: 2, C: -1}},
		"no rule begins with its name":   {left(0), left(1), left(2), left(3), left(4), left(-1)},
		"an A, B or C of a prune":        {{Op: api.SPrune, A: 1}, {Op: api.SPrune, B: 1}, {Op: api.SPrune, C: 1}, {Op: api.SPrune, A: -1, B: 1}},
	} {
		for _, s := range steps {
			wantError(t, what, g, s, api.ErrForm)
		}
	}
	for _, n := range wild {
		for _, s := range []api.Step{
			swap(n, 1), swap(1, n), {Op: api.SSwap, A: 1, B: 2, C: n},
			extract(n, 0, 1), extract(0, n, 1), extract(0, n, 4), extract(0, 0, n), extract(0, n, n),
			inline(n, 0), inline(0, n), {Op: api.SInline, C: n}, left(n),
			{Op: api.SPrune, A: n}, {Op: api.SPrune, B: n}, {Op: api.SPrune, C: n}, {Op: n},
		} {
			wantError(t, "a wild number", g, s, api.ErrForm)
		}
	}
}

// H1: an SLeft is none where a rule of the name is the name alone, and where a field is not 0.
func TestErrFormLeft(t *testing.T) {
	for what, g := range map[string]api.Grammar{
		"alone, too":         spelt(2, 2, "1: 1 t0; 1: t1; 0: 1; 1: 1"),
		"alone, ahead of it": spelt(2, 2, "1: 1; 1: 1 t0; 1: t1; 0: 1"),
		"alone":              spelt(2, 2, "1: 1; 1: t1; 0: 1"),
		"a term ahead":       spelt(2, 2, "1: t1 1; 1: t1; 0: 1"),
		"by another name":    spelt(2, 2, "1: 0 t0; 0: 1 t1; 1:"),
		"behind nothing":     spelt(2, 3, "1: 2 1 t0; 2:; 1: t1; 0: 1"),
		"no rules":           spelt(2, 2, ""),
		"another one's":      spelt(2, 2, "0: 1 t0; 0: 0 t0; 0: 1"),
	} {
		wantError(t, what, g, left(1), api.ErrForm)
	}
	g := spelt(2, 2, "1: 1 t0; 1: t1; 0: 1")
	did(t, g, left(1))
	for _, s := range []api.Step{left(0), left(2), {Op: api.SLeft, A: 1, B: 1}, {Op: api.SLeft, A: 1, C: 1}, {Op: api.SLeft, A: 1, B: -1, C: 1}} {
		wantError(t, "no such name, or a field more", g, s, api.ErrForm)
	}
}

// H1: grammars that may not be, whatever the step is.
func TestErrFormGrammar(t *testing.T) {
	for what, g := range map[string]api.Grammar{
		"nothing at all":          {},
		"terms below 0":           with(-1, 3),
		"terms beyond the limit":  with(api.MaxTerms+1, 3),
		"no names":                with(1, 0),
		"names beyond the limit":  with(1, api.MaxNames+1, rule(0, name(0), term(0)), rule(0)),
		"rules beyond the limit":  with(1, 3, slices.Repeat([]api.Rule{rule(0, name(1))}, api.MaxRules+1)...),
		"Left beyond the names":   with(1, 3, rule(0, name(0), term(0)), rule(3)),
		"Left below 0":            with(1, 3, rule(0, name(0), term(0)), rule(-1)),
		"Right beyond the limit":  with(1, 3, rule(0, append(manySyms(api.MaxRight, name(1)), term(0))...)),
		"a term that is none":     with(1, 3, rule(0, name(1), term(1))),
		"a name that is none":     with(1, 3, rule(0, name(3), name(1))),
		"wrong in the last rule":  with(1, 3, rule(0, name(1)), rule(1, name(-1))),
		"greatest terms":          with(math.MaxInt, 3),
		"greatest names":          with(1, math.MaxInt),
		"least names":             with(1, math.MinInt),
		"greatest Left":           with(1, 3, rule(math.MaxInt, name(1))),
		"wrong where it is not A": with(1, 3, rule(0, name(1)), rule(2, term(5))),
	} {
		for _, s := range []api.Step{swap(1, 2), swap(1, 1), extract(0, 0, 1), inline(0, 0), left(0), prune(), {}, {Op: 9}} {
			wantError(t, what, g, s, api.ErrForm)
		}
	}
}

// H1: a name more than there may be, at the limit and below it.
func TestErrSizeNames(t *testing.T) {
	g := spelt(1, api.MaxNames-1, "0: 0 t0; 0: t0; 0: 0 t0 0")
	for _, s := range []api.Step{extract(0, 0, 1), extract(2, 0, 3), left(0)} {
		if h := did(t, g, s); h.Names != api.MaxNames {
			t.Error("not all names:", told(h))
		}
		more := g
		more.Names = api.MaxNames
		wantError(t, "a name too many", more, s, api.ErrSize)
	}
	g.Names = api.MaxNames
	did(t, g, swap(api.MaxNames-1, 1))
	did(t, g, prune())
	wantError(t, "a step that is none, of which too much would come", g, extract(0, 0, 3), api.ErrForm)
	wantError(t, "a step that is none, of which too much would come", g, api.Step{Op: api.SLeft, C: 1}, api.ErrForm)
	g.Rules = append(g.Rules, rule(0, name(0)))
	wantError(t, "a name alone, and a name too many", g, left(0), api.ErrForm)
}

// H1: a rule more than there may be, at the limit and below it.
func TestErrSizeRules(t *testing.T) {
	full := spelt(1, 3, "0: 0 t0; 0: 1; 0: 2; 1: t0; 1:")
	for len(full.Rules) < api.MaxRules {
		full.Rules = append(full.Rules, rule(1, term(0)))
	}
	less := copied(full)
	less.Rules = less.Rules[:api.MaxRules-1]
	for _, s := range []api.Step{extract(0, 0, 2), left(0)} {
		if h := did(t, less, s); len(h.Rules) != api.MaxRules {
			t.Error("not all rules:", told(h))
		}
		wantError(t, "a rule too many", full, s, api.ErrSize)
	}
	wantError(t, "far too many rules", full, inline(1, 0), api.ErrSize)
	if h := did(t, full, inline(2, 0)); len(h.Rules) != api.MaxRules-1 {
		t.Error("a name of no rule:", told(h))
	}
	did(t, full, swap(1, 2))
	did(t, full, prune())
}

// H1: an inline comes to just MaxRules rules, to one fewer, and to one more.
func TestErrSizeInlineRules(t *testing.T) {
	for of := range 6 {
		for others := api.MaxRules - 8; others < api.MaxRules-of; others++ {
			g := with(1, 3, rule(0, name(1)))
			g.Rules = append(g.Rules, slices.Repeat([]api.Rule{rule(1, term(0))}, of)...)
			g.Rules = append(g.Rules, slices.Repeat([]api.Rule{rule(2)}, others)...)
			if n := of + of + others; n > api.MaxRules {
				wantError(t, "too many rules", g, inline(0, 0), api.ErrSize)
			} else if h := did(t, g, inline(0, 0)); len(h.Rules) != n {
				t.Error("not so many rules:", n, told(h))
			}
		}
	}
}

// H1: a Right of more symbols than there may be, at the limit and below it.
func TestErrSizeRight(t *testing.T) {
	for n := range api.MaxRight + 1 {
		g := with(1, 2, rule(0, name(0), term(0)), rule(0, manySyms(n, term(0))...), rule(1, manySyms(api.MaxRight, term(0))...))
		if n == api.MaxRight {
			wantError(t, "what ends gets too long", g, left(0), api.ErrSize)
		} else if h := did(t, g, left(0)); len(h.Rules[1].Right) != n+1 {
			t.Error("not so long:", told(h))
		}
		for m := range api.MaxRight {
			g := with(1, 2, rule(0, append(manySyms(m, term(0)), name(1))...), rule(1), rule(1, manySyms(n, term(0))...))
			if n+m > api.MaxRight {
				wantError(t, "a Right too long", g, inline(0, m), api.ErrSize)
			} else if h := did(t, g, inline(0, m)); len(h.Rules[0].Right) != m || len(h.Rules[1].Right) != n+m {
				t.Error("not so long:", told(h))
			}
		}
	}
	// Rules that begin with the name lose it, so they may be as long as they can.
	did(t, with(1, 1, rule(0, append(manySyms(7, name(0)), term(0))...), rule(0)), left(0))
	did(t, with(1, 1, rule(0, manySyms(8, term(0))...)), extract(0, 0, 8))
	did(t, with(1, 1, rule(0, manySyms(8, term(0))...)), extract(0, 7, 8))
}

// H2: Forward of an SExtract, of fewer rules than MaxSteps, of just so many, and of more. (The rule 2 makes a derivation longer by one.)
func TestMaxStepsExtract(t *testing.T) {
	g := spelt(1, 1, "0: t0 0; 0:; 0: 0")
	for n := 195; n <= 203; n++ {
		for pads := range 4 {
			d := slices.Concat(many(pads, 2), many(n, 0), []int{1})
			to := slices.Concat(many(pads, 2), slices.Repeat([]int{0, 3}, n), []int{1})
			wantWhile(t, g, extract(0, 0, 1), d, to)
		}
	}
}

// wantWhile asks for a pair, if what d becomes is not too long; and for none, if it is.
func wantWhile(t *testing.T, g api.Grammar, s api.Step, d, to []int) {
	t.Helper()
	if len(to) <= api.MaxSteps {
		wantPair(t, "not too long", g, s, d, to)
		return
	}
	if out, ok := step.Forward(g, s, d); ok || len(out) > 0 {
		t.Errorf("%s, %v: Forward of %d rules: %v, which are too many: %d", told(g), s, len(d), out, len(to))
	}
	if out, ok := step.Back(g, s, to); ok || len(out) > 0 {
		t.Errorf("%s, %v: Back of %d rules, which are too many: %v", told(g), s, len(to), out)
	}
}

// H2: likewise of an SLeft: of many names beside one another, and of one within the other.
func TestMaxStepsLeft(t *testing.T) {
	g := spelt(2, 2, "0: t0 1 0; 0:; 1: 1 t1; 1:; 0: 0")
	for n := 130; n <= 136; n++ {
		for pads := range 5 {
			d := slices.Concat(many(pads, 4), slices.Repeat([]int{0, 3}, n), []int{1})
			to := slices.Concat(many(pads, 4), slices.Repeat([]int{0, 3, 5}, n), []int{1})
			wantWhile(t, g, left(1), d, to)
		}
	}
	deep := spelt(2, 1, "0: 0 t0; 0: t1")
	for n := 396; n < api.MaxSteps; n++ {
		d := append(many(n, 0), 1)
		to := slices.Concat([]int{1}, many(n, 0), []int{2})
		wantWhile(t, deep, left(0), d, to)
	}
	behind := spelt(2, 1, "0: t0 0; 0: t1; 0: 0 t1")
	for n := 197; n <= 202; n++ {
		wantWhile(t, behind, left(0), append(many(n, 0), 1), slices.Concat(many(n, 0), []int{1, 3}, many(n, 3)))
	}
}

// H2: Back of an SInline, of fewer rules than MaxSteps, of just so many, and of more.
func TestMaxStepsInline(t *testing.T) {
	g := spelt(1, 2, "0: 1 0; 0:; 1: t0; 0: 0")
	s := inline(0, 0)
	for n := 195; n <= 203; n++ {
		for pads := range 4 {
			d := slices.Concat(many(pads, 3), slices.Repeat([]int{0, 2}, n), []int{1})
			to := slices.Concat(many(pads, 3), many(n, 0), []int{1})
			if len(d) <= api.MaxSteps {
				wantPair(t, "not too long", g, s, d, to)
				continue
			}
			if out, ok := step.Back(g, s, to); ok || len(out) > 0 {
				t.Errorf("Back of %d rules: %v, which are too many: %d", len(to), out, len(d))
			}
			if out, ok := step.Forward(g, s, d); ok || len(out) > 0 {
				t.Errorf("Forward of %d rules, which are too many: %v", len(d), out)
			}
		}
	}
}

// H2: where a derivation gets no longer, just MaxSteps rules are carried over, and one more is not.
func TestMaxStepsSame(t *testing.T) {
	g := spelt(1, 4, "3: t0; 0: t0 0; 2: 0; 0:")
	d := append(many(api.MaxSteps-1, 1), 3)
	to := append(many(api.MaxSteps-1, 0), 1)
	wantPair(t, "all rules", g, swap(1, 2), d, d)
	wantPair(t, "all rules", g, prune(), d, to)
	for _, s := range []api.Step{swap(1, 2), prune(), extract(0, 0, 1), inline(2, 0)} {
		wantNone(t, "a rule too many", g, s, slices.Insert(slices.Clone(d), 0, 1))
		wantNone(t, "a rule too many", g, s, slices.Insert(slices.Clone(to), 0, 0))
	}
	wantPair(t, "a rule that the derivation has not", g, extract(0, 0, 1), d, d)
}

// H3: of 200 rules each derivation is carried over and back, also where it becomes twice as long.
func TestTwoHundred(t *testing.T) {
	chain := append(many(199, 0), 1)
	for _, c := range []struct {
		g api.Grammar
		s api.Step
		d []int
	}{
		{spelt(1, 1, "0: t0 0; 0: t0"), extract(0, 1, 2), chain},
		{spelt(1, 1, "0: 0 t0; 0:"), left(0), chain},
		{spelt(1, 1, "0: t0 0; 0:; 0: 0 t0"), left(0), chain},
		{spelt(1, 3, "0: t0 0; 0:; 1: t0"), swap(1, 2), chain},
		{spelt(1, 3, "0: t0 0; 0:; 1: t0"), prune(), chain},
		{spelt(1, 2, "0: 1 t0; 0:; 1: 0"), inline(0, 0), append(slices.Repeat([]int{0, 2}, 99), 1)},
	} {
		wantOver(t, c.g, did(t, c.g, c.s), c.s, c.d)
	}
	g := spelt(1, 2, "0: 1; 1: t0 0; 1:")
	h := did(t, g, inline(0, 0))
	wantBackOver(t, g, h, inline(0, 0), append(many(199, 0), 1))
}
