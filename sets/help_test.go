package sets_test

import (
	"slices"
	"strconv"
	"strings"
	"testing"

	"pollarding/api"
	"pollarding/sets"
)

func term(n int) api.Sym { return api.Sym{Term: true, N: n} }

func name(n int) api.Sym { return api.Sym{N: n} }

func rule(left int, right ...api.Sym) api.Rule {
	return api.Rule{Left: left, Right: right}
}

func with(terms, names int, rules ...api.Rule) api.Grammar {
	return api.Grammar{Terms: terms, Names: names, Rules: rules}
}

func manySyms(n int, s api.Sym) []api.Sym {
	var out []api.Sym
	for range n {
		out = append(out, s)
	}
	return out
}

// told writes what sets tell: of each name in turn its First and its Follow, numbers in digits, and an n behind a name that is Null. (So "0/1n" is a name that begins with the term 0, is followed by 1, and is Null.)
func told(s api.Sets) string {
	var names []string
	for n := range s.Null {
		text := digits(s.First[n]) + "/" + digits(s.Follow[n])
		if s.Null[n] {
			text += "n"
		}
		names = append(names, text)
	}
	return strings.Join(names, " ")
}

func digits(set []bool) string {
	out := ""
	for n, has := range set {
		if has {
			out += strconv.Itoa(n)
		}
	}
	return out
}

// asked asks Of of a grammar that may be, and looks at the lengths of what it answers.
func asked(t *testing.T, g api.Grammar) api.Sets {
	t.Helper()
	s, e := sets.Of(g)
	if e != api.OK {
		t.Fatalf("Of %v: %v", g, e)
	}
	if len(s.Null) != g.Names || len(s.First) != g.Names || len(s.Follow) != g.Names {
		t.Fatalf("Of %v: not one set of each name: %v", g, s)
	}
	for n := range g.Names {
		if len(s.First[n]) != g.Terms || len(s.Follow[n]) != g.Terms+1 {
			t.Fatalf("Of %v: the name %d: First is of the terms, Follow of the terms and the end: %v", g, n, s)
		}
	}
	return s
}

func copied(g api.Grammar) api.Grammar {
	out := g
	out.Rules = nil
	for _, r := range g.Rules {
		out.Rules = append(out.Rules, api.Rule{Left: r.Left, Right: slices.Clone(r.Right)})
	}
	return out
}

func same(a, b api.Grammar) bool {
	return a.Terms == b.Terms && a.Names == b.Names && slices.EqualFunc(a.Rules, b.Rules, func(x, y api.Rule) bool {
		return x.Left == y.Left && slices.Equal(x.Right, y.Right)
	})
}

// eachSmall calls do with many small grammars, the same ones each time.
func eachSmall(do func(g api.Grammar)) {
	state := uint32(1)
	below := func(n int) int {
		state = state*1664525 + 1013904223
		return int(state>>16) % n
	}
	for range 6000 {
		g := with(below(4), 1+below(4))
		for range below(8) {
			r := rule(below(g.Names))
			for range below(4) {
				if below(3) == 0 && g.Terms > 0 {
					r.Right = append(r.Right, term(below(g.Terms)))
				} else {
					r.Right = append(r.Right, name(below(g.Names)))
				}
			}
			g.Rules = append(g.Rules, r)
		}
		do(g)
	}
}
