package step_test

import (
	"slices"
	"strconv"
	"strings"
	"testing"

	"pollarding/api"
	"pollarding/gram"
	"pollarding/step"
)

func term(n int) api.Sym { return api.Sym{Term: true, N: n} }

func name(n int) api.Sym { return api.Sym{N: n} }

func rule(left int, right ...api.Sym) api.Rule {
	return api.Rule{Left: left, Right: right}
}

func with(terms, names int, rules ...api.Rule) api.Grammar {
	return api.Grammar{Terms: terms, Names: names, Rules: rules}
}

func manySyms(n int, s api.Sym) []api.Sym {
	return slices.Repeat([]api.Sym{s}, n)
}

func many(n, rule int) []int {
	return slices.Repeat([]int{rule}, n)
}

// spelt reads rules that are parted by ";": a name's number, ":", and symbols, a term's number behind a "t".
func spelt(terms, names int, rules string) api.Grammar {
	g := with(terms, names)
	for _, text := range strings.Split(rules, ";") {
		left, right, ok := strings.Cut(text, ":")
		if !ok {
			continue
		}
		r := rule(number(left))
		for _, word := range strings.Fields(right) {
			n, isTerm := strings.CutPrefix(word, "t")
			r.Right = append(r.Right, api.Sym{Term: isTerm, N: number(n)})
		}
		g.Rules = append(g.Rules, r)
	}
	return g
}

func number(text string) int {
	n, e := strconv.Atoi(strings.TrimSpace(text))
	if e != nil {
		panic(e)
	}
	return n
}

// ruleText writes a rule as spelt reads it.
func ruleText(r api.Rule) string {
	out := strconv.Itoa(r.Left) + ":"
	for _, s := range r.Right {
		out += " "
		if s.Term {
			out += "t"
		}
		out += strconv.Itoa(s.N)
	}
	return out
}

// told writes a grammar: its terms and names, and its rules.
func told(g api.Grammar) string {
	out := strconv.Itoa(g.Terms) + " " + strconv.Itoa(g.Names)
	for _, r := range g.Rules {
		out += "; " + ruleText(r)
	}
	return out
}

func same(a, b api.Grammar) bool { return told(a) == told(b) }

func copied(g api.Grammar) api.Grammar {
	out := g
	out.Rules = nil
	for _, r := range g.Rules {
		out.Rules = append(out.Rules, api.Rule{Left: r.Left, Right: slices.Clone(r.Right)})
	}
	return out
}

// did answers what comes of a step in which nothing is wrong.
func did(t *testing.T, g api.Grammar, s api.Step) api.Grammar {
	t.Helper()
	h, e := step.Do(g, s)
	if e != api.OK {
		t.Fatalf("Do of %s, %v: the error %v", told(g), s, e)
	}
	return h
}

// wantError asks for an error, and that all else is zero (P2), and that nothing is carried over.
func wantError(t *testing.T, what string, g api.Grammar, s api.Step, e api.Errno) {
	t.Helper()
	h, got := step.Do(g, s)
	if got != e || h.Terms != 0 || h.Names != 0 || len(h.Rules) != 0 {
		t.Errorf("%s: Do of %v: %v %v, not the error %v", what, s, h, got, e)
	}
	for _, d := range [][]int{nil, {0}, {1}, {0, 1}} {
		wantNone(t, what, g, s, d)
	}
}

// wantNone asks that d is carried over neither the one way nor the other.
func wantNone(t *testing.T, what string, g api.Grammar, s api.Step, d []int) {
	t.Helper()
	if out, ok := step.Forward(g, s, d); ok || len(out) > 0 {
		t.Errorf("%s: Forward of %v, %v: %v %v, not none", what, s, d, out, ok)
	}
	if out, ok := step.Back(g, s, d); ok || len(out) > 0 {
		t.Errorf("%s: Back of %v, %v: %v %v, not none", what, s, d, out, ok)
	}
}

// wantPair asks that the derivation d of g becomes the derivation to, and to becomes d.
func wantPair(t *testing.T, what string, g api.Grammar, s api.Step, d, to []int) {
	t.Helper()
	if out, ok := step.Forward(g, s, d); !ok || !slices.Equal(out, to) {
		t.Errorf("%s: Forward of %v, %v: %v %v, not %v", what, s, d, out, ok, to)
	}
	if out, ok := step.Back(g, s, to); !ok || !slices.Equal(out, d) {
		t.Errorf("%s: Back of %v, %v: %v %v, not %v", what, s, to, out, ok, d)
	}
}

// yielded answers what a derivation yields.
func yielded(t *testing.T, g api.Grammar, d []int) []int {
	t.Helper()
	tokens, ok := gram.Yield(g, d)
	if !ok {
		t.Fatalf("%s: %v is no derivation", told(g), d)
	}
	return tokens
}

// fewest answers, of each name, how many rules the derivation of it has that has the fewest; more than most, if that has more.
func fewest(g api.Grammar, most int) []int {
	out := slices.Repeat([]int{most + 1}, g.Names)
	for range most {
		for _, r := range g.Rules {
			out[r.Left] = min(out[r.Left], 1+fewestOf(out, r.Right))
		}
	}
	return out
}

func fewestOf(few []int, syms []api.Sym) int {
	n := 0
	for _, s := range syms {
		if !s.Term {
			n += few[s.N]
		}
	}
	return n
}

// derivations answers derivations of the name 0, of at most that many rules; no more than 40 of them.
func derivations(g api.Grammar, longest int) [][]int {
	few := fewest(g, longest)
	var out [][]int
	var derive func(d []int, open []api.Sym)
	derive = func(d []int, open []api.Sym) {
		for len(open) > 0 && open[0].Term {
			open = open[1:]
		}
		if len(out) == 40 || len(d)+fewestOf(few, open) > longest {
			return
		}
		if len(open) == 0 {
			out = append(out, d)
			return
		}
		for i, r := range g.Rules {
			if r.Left == open[0].N {
				derive(append(d[:len(d):len(d)], i), slices.Concat(r.Right, open[1:]))
			}
		}
	}
	derive(nil, []api.Sym{name(0)})
	return out
}

// eachTokens calls do with all lists of at most that many tokens.
func eachTokens(terms, most int, do func(tokens []int)) {
	var grow func(tokens []int)
	grow = func(tokens []int) {
		do(tokens)
		if len(tokens) == most {
			return
		}
		for n := range terms {
			grow(append(tokens[:len(tokens):len(tokens)], n))
		}
	}
	grow(nil)
}

// numbers answers a function that answers numbers below n, the same ones each time.
func numbers() func(n int) int {
	state := uint32(1)
	return func(n int) int {
		state = state*1664525 + 1013904223
		return int(state>>16) % n
	}
}

// eachSmall calls do with many small grammars, the same ones each time.
func eachSmall(do func(g api.Grammar)) {
	below := numbers()
	for range 1000 {
		g := with(below(4), 1+below(4))
		for range below(9) {
			r := rule(below(g.Names))
			for range below(4) {
				if below(2) == 0 && g.Terms > 0 {
					r.Right = append(r.Right, term(below(g.Terms)))
				} else {
					r.Right = append(r.Right, name(below(g.Names)))
				}
			}
			g.Rules = append(g.Rules, r)
		}
		do(g)
	}
}

// eachStep calls do with all steps that may be one of g's, and with many that are none.
func eachStep(g api.Grammar, do func(s api.Step)) {
	most := max(len(g.Rules), g.Names)
	for op := api.SSwap - 1; op <= api.SPrune+1; op++ {
		for a := -1; a <= most; a++ {
			for b := -1; b <= 4; b++ {
				for c := -1; c <= 4; c++ {
					do(api.Step{Op: op, A: a, B: b, C: c})
				}
			}
		}
	}
}

// eachDone calls do with all steps of which something comes, and with that.
func eachDone(g api.Grammar, do func(s api.Step, h api.Grammar)) {
	eachStep(g, func(s api.Step) {
		if h, e := step.Do(g, s); e == api.OK {
			do(s, h)
		}
	})
}
