package reach_test

import (
	"slices"
	"strconv"
	"testing"

	"pollarding/api"
	"pollarding/reach"
)

func term(n int) api.Sym { return api.Sym{Term: true, N: n} }

func name(n int) api.Sym { return api.Sym{N: n} }

func rule(left int, right ...api.Sym) api.Rule {
	return api.Rule{Left: left, Right: right}
}

func with(terms, names int, rules ...api.Rule) api.Grammar {
	return api.Grammar{Terms: terms, Names: names, Rules: rules}
}

func manySyms(n int, s api.Sym) []api.Sym {
	var out []api.Sym
	for range n {
		out = append(out, s)
	}
	return out
}

// asker is one of the three functions of the face.
type asker func(g api.Grammar) ([]bool, api.Errno)

func askers() map[string]asker {
	return map[string]asker{"Makes": reach.Makes, "Comes": reach.Comes, "Left": reach.Left}
}

// asked asks of a grammar that may be, and looks at the length of what is answered.
func asked(t *testing.T, ask asker, g api.Grammar) []bool {
	t.Helper()
	set, e := ask(g)
	if e != api.OK || len(set) != g.Names {
		t.Fatalf("%v: not one truth of each name: %v %v", g, set, e)
	}
	return set
}

// told writes which names make, which ones come, and which ones begin with themselves. (So "01/0/1": 0 and 1 make, 0 comes, 1 begins with itself. A name above 9 is a letter.)
func told(t *testing.T, g api.Grammar) string {
	t.Helper()
	return digits(asked(t, reach.Makes, g)) + "/" + digits(asked(t, reach.Comes, g)) + "/" + digits(asked(t, reach.Left, g))
}

func digits(set []bool) string {
	out := ""
	for n, has := range set {
		if has {
			out += strconv.FormatInt(int64(n), 36)
		}
	}
	return out
}

func allBelow(n int) string {
	out := ""
	for i := range n {
		out += strconv.FormatInt(int64(i), 36)
	}
	return out
}

func copied(g api.Grammar) api.Grammar {
	out := g
	out.Rules = nil
	for _, r := range g.Rules {
		out.Rules = append(out.Rules, api.Rule{Left: r.Left, Right: slices.Clone(r.Right)})
	}
	return out
}

func same(a, b api.Grammar) bool {
	return a.Terms == b.Terms && a.Names == b.Names && slices.EqualFunc(a.Rules, b.Rules, func(x, y api.Rule) bool {
		return x.Left == y.Left && slices.Equal(x.Right, y.Right)
	})
}

// eachSmall calls do with many small grammars, the same ones each time.
func eachSmall(do func(g api.Grammar)) {
	state := uint32(1)
	below := func(n int) int {
		state = state*1664525 + 1013904223
		return int(state>>16) % n
	}
	for range 6000 {
		g := with(below(4), 1+below(5))
		for range below(10) {
			r := rule(below(g.Names))
			for range below(4) {
				if below(3) == 0 && g.Terms > 0 {
					r.Right = append(r.Right, term(below(g.Terms)))
				} else {
					r.Right = append(r.Right, name(below(g.Names)))
				}
			}
			g.Rules = append(g.Rules, r)
		}
		do(g)
	}
}
