package step_test

import (
	"math"
	"slices"
	"testing"

	"pollarding/api"
	"pollarding/gram"
	"pollarding/step"
)

// roomyRules are those of roomy, and its steps are one of each kind.
const roomyRules = "0: 1 t0 0; 0: 2; 1: t1 2; 1:; 2: 2 t0; 2: t1; 3: 1"

func roomySteps() []api.Step {
	return []api.Step{swap(1, 2), swap(3, 3), extract(0, 0, 1), extract(0, 1, 3), extract(4, 0, 2), inline(0, 0), inline(1, 0), inline(6, 0), left(2), prune()}
}

// roomy has, behind the lengths of its lists, rules and symbols by which all else would come.
func roomy() api.Grammar {
	g := with(2, 4)
	for _, r := range spelt(2, 4, roomyRules).Rules {
		right := append(make([]api.Sym, 0, 12), r.Right...)
		rest := right[len(right):12]
		for i := range rest {
			rest[i] = name(3)
		}
		g.Rules = append(g.Rules, api.Rule{Left: r.Left, Right: right})
	}
	behind := append(g.Rules, rule(1, term(1)), rule(2, name(2)))
	g.Rules = behind[:7]
	return g
}

// roomyDerivation has all rules of roomy but the last one, and room behind it.
func roomyDerivation() []int {
	room := []int{0, 2, 4, 5, 0, 3, 1, 5, 77, 1, 0}
	return room[:8]
}

// asked writes all that is answered of roomy's steps.
func asked(t *testing.T, g api.Grammar, d []int) []string {
	t.Helper()
	var out []string
	for _, s := range roomySteps() {
		h := did(t, g, s)
		to, ok := step.Forward(g, s, d)
		back, is := step.Back(g, s, to)
		if !ok || !is || !slices.Equal(back, d) {
			t.Fatalf("%v: %v %v, %v %v", s, to, ok, back, is)
		}
		yielded(t, h, to)
		out = append(out, told(h), key(to))
	}
	return out
}

// P3: what is handed in stays as it is, and what lies behind the lists' lengths is neither read nor written.
func TestHandedInStays(t *testing.T) {
	g, d := roomy(), roomyDerivation()
	plain := spelt(2, 4, roomyRules)
	if got, want := asked(t, g, d), asked(t, plain, slices.Clone(d)); !slices.Equal(got, want) {
		t.Error("what lies behind the lists is read:", got, want)
	}
	if !same(g, plain) || !slices.Equal(d[:11], []int{0, 2, 4, 5, 0, 3, 1, 5, 77, 1, 0}) {
		t.Error("what was handed in has changed", told(g), d[:11])
	}
	for _, r := range g.Rules {
		for _, s := range r.Right[len(r.Right):12] {
			if s != name(3) {
				t.Error("what lies behind a Right has changed", s)
			}
		}
	}
	if behind := with(2, 4, g.Rules[:9][7:]...); told(behind) != "2 4; 1: t1; 2: 2" {
		t.Error("what lies behind the rules has changed", told(behind))
	}
}

// fill writes over all memory of a grammar's lists.
func fill(g api.Grammar) {
	for _, r := range g.Rules {
		for i := range r.Right[:cap(r.Right)] {
			r.Right[:cap(r.Right)][i] = term(55)
		}
	}
	rules := g.Rules[:cap(g.Rules)]
	for i := range rules {
		rules[i].Left = 55
	}
}

// P3: what comes of a step shares nothing with what was handed in, or with another answer.
func TestAnswersAreNew(t *testing.T) {
	g, d := roomy(), roomyDerivation()
	for _, s := range roomySteps() {
		h, other := did(t, g, s), did(t, g, s)
		was := told(h)
		fill(h)
		if told(other) != was {
			t.Errorf("%v: two answers share memory: %s, not %s", s, told(other), was)
		}
		to, _ := step.Forward(g, s, d)
		again, _ := step.Forward(g, s, d)
		back, _ := step.Back(g, s, again)
		kept := [][]int{slices.Clone(again), slices.Clone(back), slices.Clone(d)}
		for i := range to[:cap(to)] {
			to[:cap(to)][i] = 55
		}
		if !slices.Equal(again, kept[0]) || !slices.Equal(back, kept[1]) || !slices.Equal(d, kept[2]) {
			t.Errorf("%v: derivations share memory: %v %v %v", s, again, back, d)
		}
		for i := range back[:cap(back)] {
			back[:cap(back)][i] = 55
		}
		if !slices.Equal(again, kept[0]) || !slices.Equal(d, kept[2]) {
			t.Errorf("%v: derivations share memory: %v %v", s, again, d)
		}
		if !same(g, spelt(2, 4, roomyRules)) {
			t.Fatalf("%v: an answer shares memory with what was handed in: %s", s, told(g))
		}
	}
}

// P3: no two lists of what comes of a step share any memory.
func TestListsOfAnAnswer(t *testing.T) {
	for _, s := range roomySteps() {
		h := did(t, roomy(), s)
		for i, r := range h.Rules {
			was := copied(h)
			all := r.Right[:cap(r.Right)]
			for k := range all {
				all[k] = term(66)
			}
			for k, other := range h.Rules {
				if k != i && ruleText(other) != ruleText(was.Rules[k]) {
					t.Fatalf("%v: the rules %d and %d share memory: %s", s, i, k, told(h))
				}
			}
		}
	}
}

// P3: an answer hangs on nothing that is done to what was handed in later on.
func TestHandedInIsNotKept(t *testing.T) {
	for _, s := range roomySteps() {
		g, d := roomy(), roomyDerivation()
		h := did(t, g, s)
		to, _ := step.Forward(g, s, d)
		was, list := told(h), slices.Clone(to)
		fill(g)
		for i := range d {
			d[i] = 55
		}
		if told(h) != was || !slices.Equal(to, list) {
			t.Errorf("%v: an answer hangs on what was handed in: %s, %v", s, told(h), to)
		}
	}
}

// P3: the same arguments have the same answer, whatever was asked between.
func TestTheSameAgain(t *testing.T) {
	want := asked(t, roomy(), roomyDerivation())
	for range 20 {
		did(t, sums(), left(0))
		wantError(t, "between", sums(), left(2), api.ErrForm)
		if got := asked(t, roomy(), roomyDerivation()); !slices.Equal(got, want) {
			t.Error("another answer:", got, want)
		}
	}
}

// P3: lists that are nil and lists that are empty are the same.
func TestNilOrEmpty(t *testing.T) {
	for _, rules := range [][]api.Rule{nil, {}} {
		g := with(1, 3, rules...)
		for _, s := range []api.Step{swap(1, 2), prune()} {
			if h := did(t, g, s); told(h) != "1 3" {
				t.Error("no rules:", told(h))
			}
			wantNone(t, "no rules", g, s, nil)
			wantNone(t, "no rules", g, s, []int{})
		}
	}
	for _, right := range [][]api.Sym{nil, {}} {
		g := with(1, 2, api.Rule{Right: []api.Sym{name(0), term(0)}}, api.Rule{Right: right}, api.Rule{Left: 1, Right: right})
		if h := did(t, g, left(0)); told(h) != "1 3; 2: t0 2; 0: 2; 1:; 2:" {
			t.Error("no symbols:", told(h))
		}
		wantPair(t, "no symbols", g, left(0), []int{0, 1}, []int{1, 0, 3})
	}
}

// P1 and P2: no arguments make a call panic, and where there is an error nothing else comes out.
func TestNothingPanics(t *testing.T) {
	wild := []int{math.MinInt, -1, 0, 1, 2, api.MaxNames + 1, math.MaxInt}
	for _, terms := range wild {
		for _, names := range wild {
			for _, n := range wild {
				for _, g := range []api.Grammar{
					with(terms, names),
					with(terms, names, rule(n)),
					with(terms, names, rule(0, name(n), term(n)), rule(0)),
					with(terms, names, rule(0, term(n), name(n)), rule(n, name(0), name(n))),
					with(terms, names, rule(0, manySyms(30, name(n))...)),
				} {
					for op := range api.SPrune + 2 {
						checkWild(t, g, api.Step{Op: op, A: n, B: n, C: n})
						checkWild(t, g, api.Step{Op: op, A: n})
						checkWild(t, g, api.Step{Op: op, B: n})
						checkWild(t, g, api.Step{Op: op, A: 1, B: n, C: names})
						checkWild(t, g, api.Step{Op: op, B: n, C: terms})
					}
				}
			}
		}
	}
}

// checkWild asks what holds of all arguments.
func checkWild(t *testing.T, g api.Grammar, s api.Step) {
	t.Helper()
	h, e := step.Do(g, s)
	if e == api.OK && (!gram.May(g) || !gram.May(h)) || e != api.OK && (h.Terms != 0 || h.Names != 0 || len(h.Rules) > 0) {
		t.Fatalf("Do of %v, %v: %v %v", g, s, h, e)
	}
	for _, d := range [][]int{nil, {0}, {1}, {0, 1}, {1, 0, 2}, {s.A}, {0, s.B}, many(401, 0), many(5000, s.A)} {
		to, ok := step.Forward(g, s, d)
		if _, is := gram.Yield(g, d); ok != (is && e == api.OK) || !ok && len(to) > 0 {
			t.Fatalf("Forward of %v, %v, %v: %v %v", g, s, d, to, ok)
		}
		from, ok := step.Back(g, s, d)
		if _, is := gram.Yield(h, d); ok != (is && e == api.OK) || !ok && len(from) > 0 {
			t.Fatalf("Back of %v, %v, %v: %v %v", g, s, d, from, ok)
		}
	}
}
