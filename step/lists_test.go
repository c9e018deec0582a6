package step_test

import (
	"cmp"
	"slices"
	"testing"

	"pollarding/api"
	"pollarding/step"
)

// These carry derivations over by H2's words, on the lists themselves, without a tree.

// endOf answers where in d the derivation ends that begins at i.
func endOf(g api.Grammar, d []int, i int) int {
	return endOfNames(g, d, i+1, g.Rules[d[i]].Right)
}

// endOfNames answers where in d the derivations of the names of syms end, the first of which begins at i.
func endOfNames(g api.Grammar, d []int, i int, syms []api.Sym) int {
	for _, s := range syms {
		if !s.Term {
			i = endOf(g, d, i)
		}
	}
	return i
}

// put is a rule that is put into a list ahead of the place at, for the rule of.
type put struct{ at, of, rule int }

// withPuts puts rules into d. Where several come to the same place, what is within another one comes first, and stands further behind in d.
func withPuts(d []int, puts []put) []int {
	slices.SortFunc(puts, func(a, b put) int { return cmp.Or(cmp.Compare(a.at, b.at), cmp.Compare(b.of, a.of)) })
	var out []int
	for i := range len(d) + 1 {
		for _, p := range puts {
			if p.at == i {
				out = append(out, p.rule)
			}
		}
		if i < len(d) {
			out = append(out, d[i])
		}
	}
	return out
}

func numbersOf(g api.Grammar, n int) []int {
	var out []int
	for i, r := range g.Rules {
		if r.Left == n {
			out = append(out, i)
		}
	}
	return out
}

func extractLists(g api.Grammar, s api.Step, d []int) []int {
	var puts []put
	for i, n := range d {
		if n == s.A {
			puts = append(puts, put{endOfNames(g, d, i+1, g.Rules[n].Right[:s.B]), i, len(g.Rules)})
		}
	}
	return withPuts(d, puts)
}

func unExtractLists(g api.Grammar, d []int) []int {
	return slices.DeleteFunc(slices.Clone(d), func(n int) bool { return n == len(g.Rules) })
}

func inlineLists(g api.Grammar, s api.Step, d []int) []int {
	of := numbersOf(g, g.Rules[s.A].Right[s.B].N)
	gone := map[int]bool{}
	numbers := slices.Clone(d)
	for i, n := range d {
		switch {
		case n == s.A:
			within := endOfNames(g, d, i+1, g.Rules[n].Right[:s.B])
			gone[within] = true
			numbers[i] = s.A + slices.Index(of, d[within])
		case n > s.A:
			numbers[i] = n + len(of) - 1
		}
	}
	var out []int
	for i, n := range numbers {
		if !gone[i] {
			out = append(out, n)
		}
	}
	return out
}

func unInlineLists(g, h api.Grammar, s api.Step, d []int) []int {
	of := numbersOf(g, g.Rules[s.A].Right[s.B].N)
	var puts []put
	numbers := slices.Clone(d)
	for i, n := range d {
		switch {
		case n >= s.A+len(of):
			numbers[i] = n - len(of) + 1
		case n >= s.A:
			numbers[i] = s.A
			puts = append(puts, put{endOfNames(h, d, i+1, h.Rules[n].Right[:s.B]), i, of[n-s.A]})
		}
	}
	return withPuts(numbers, puts)
}

// leftLists answers what the derivation that d begins with becomes, and what is behind it. Rules that begin with A, within one another, stand one behind the other in a list, with the one that ends them; what is within them comes in the turned order.
func leftLists(g api.Grammar, a int, d []int) ([]int, []int) {
	begins := func(n int) bool {
		return g.Rules[n].Left == a && len(g.Rules[n].Right) > 0 && g.Rules[n].Right[0] == name(a)
	}
	heads := 1
	for begins(d[heads-1]) {
		heads++
	}
	turned := slices.Clone(d[:heads])
	slices.Reverse(turned)
	var out []int
	isA := g.Rules[d[0]].Left == a
	d = d[heads:]
	for i, n := range turned {
		out = append(out, n)
		for k, s := range g.Rules[n].Right {
			if s.Term || i > 0 && k == 0 {
				continue
			}
			var more []int
			more, d = leftLists(g, a, d)
			out = append(out, more...)
		}
	}
	if isA {
		out = append(out, len(g.Rules))
	}
	return out, d
}

// unLeftLists answers what the derivation that d begins with, of what came of g, becomes, and what is behind it.
func unLeftLists(g api.Grammar, a int, d []int) ([]int, []int) {
	isA := g.Rules[d[0]].Left == a
	var heads, out []int
	for first := true; first || isA && d[0] != len(g.Rules); first = false {
		n := d[0]
		d = d[1:]
		heads = append(heads, n)
		for k, s := range g.Rules[n].Right {
			if s.Term || !first && k == 0 {
				continue
			}
			var more []int
			more, d = unLeftLists(g, a, d)
			out = append(out, more...)
		}
	}
	if isA {
		d = d[1:]
	}
	slices.Reverse(heads)
	return append(heads, out...), d
}

// staying answers the numbers of g's rules that are h's, in order. (None is twice in g.)
func staying(g, h api.Grammar) []int {
	var out []int
	for _, r := range h.Rules {
		out = append(out, slices.IndexFunc(g.Rules, func(q api.Rule) bool { return ruleText(q) == ruleText(r) }))
	}
	return out
}

func forwardLists(g, h api.Grammar, s api.Step, d []int) []int {
	switch s.Op {
	case api.SExtract:
		return extractLists(g, s, d)
	case api.SInline:
		return inlineLists(g, s, d)
	case api.SLeft:
		out, _ := leftLists(g, s.A, d)
		return out
	case api.SPrune:
		stay := staying(g, h)
		out := slices.Clone(d)
		for i, n := range d {
			out[i] = slices.Index(stay, n)
		}
		return out
	}
	return d
}

func backLists(g, h api.Grammar, s api.Step, d []int) []int {
	switch s.Op {
	case api.SExtract:
		return unExtractLists(g, d)
	case api.SInline:
		return unInlineLists(g, h, s, d)
	case api.SLeft:
		out, _ := unLeftLists(g, s.A, d)
		return out
	case api.SPrune:
		stay := staying(g, h)
		out := slices.Clone(d)
		for i, n := range d {
			out[i] = stay[n]
		}
		return out
	}
	return d
}

// twice tells whether g has a rule twice.
func twice(g api.Grammar) bool {
	var texts []string
	for _, r := range g.Rules {
		texts = append(texts, ruleText(r))
	}
	slices.Sort(texts)
	return len(slices.Compact(texts)) < len(g.Rules)
}

// H2, by its words, on many small grammars, all steps, and short derivations, both ways.
func TestCarryByWords(t *testing.T) {
	forward, back := map[int]int{}, map[int]int{}
	eachSmall(func(g api.Grammar) {
		all := derivations(g, 8)
		eachDone(g, func(s api.Step, h api.Grammar) {
			if s.Op == api.SPrune && twice(g) {
				return
			}
			for _, d := range all {
				want := forwardLists(g, h, s, d)
				if got, ok := step.Forward(g, s, d); !ok || !slices.Equal(got, want) {
					t.Fatalf("%s, %v: Forward of %v: %v %v, not %v", told(g), s, d, got, ok, want)
				}
				forward[s.Op]++
			}
			for _, d := range derivations(h, 8) {
				want := backLists(g, h, s, d)
				if got, ok := step.Back(g, s, d); !ok || !slices.Equal(got, want) {
					t.Fatalf("%s, %v: Back of %v: %v %v, not %v", told(g), s, d, got, ok, want)
				}
				back[s.Op]++
			}
		})
	})
	for op := api.SSwap; op <= api.SPrune; op++ {
		if forward[op] < 1000 || back[op] < 1000 {
			t.Error("too few derivations were looked at:", forward, back)
		}
	}
}
