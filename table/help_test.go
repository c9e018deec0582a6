package table_test

import (
	"fmt"
	"slices"
	"strconv"
	"strings"
	"testing"

	"pollarding/api"
	"pollarding/table"
)

func term(n int) api.Sym { return api.Sym{Term: true, N: n} }

func name(n int) api.Sym { return api.Sym{N: n} }

func rule(left int, right ...api.Sym) api.Rule {
	return api.Rule{Left: left, Right: right}
}

func with(terms, names int, rules ...api.Rule) api.Grammar {
	return api.Grammar{Terms: terms, Names: names, Rules: rules}
}

func manySyms(n int, s api.Sym) []api.Sym {
	return slices.Repeat([]api.Sym{s}, n)
}

// told writes what a table says, with a bar between two states. Of each state: "t0>3": by the term 0 it goes on to the state 3; "t0:1,2": with the term 0 ahead the rules 1 and 2 are read whole; "e:1": likewise with the end ahead; "e!": End; "n0>4": by the name 0 it goes on to the state 4; and a dash, if there is nothing of these.
func told(x api.Table) string {
	var states []string
	for i, cells := range x.Cells {
		var words []string
		for n, c := range cells {
			words = append(words, toldCell(c, n, len(cells)-1)...)
		}
		for n, to := range x.Goto[i] {
			words = append(words, toldWay("n", n, to)...)
		}
		if len(words) == 0 {
			words = []string{"-"}
		}
		states = append(states, strings.Join(words, " "))
	}
	return strings.Join(states, " | ")
}

func toldWay(kind string, n, to int) []string {
	if to == -1 {
		return nil
	}
	return []string{fmt.Sprintf("%s%d>%d", kind, n, to)}
}

func toldCell(c api.Cell, n, end int) []string {
	words, ahead := toldWay("t", n, c.Shift), "t"+strconv.Itoa(n)
	if n == end {
		ahead = "e"
	}
	if len(c.Rules) > 0 {
		words = append(words, ahead+":"+strings.ReplaceAll(strings.Trim(fmt.Sprint(c.Rules), "[]"), " ", ","))
	}
	if c.End {
		words = append(words, ahead+"!")
	}
	return words
}

// asked asks Of of a grammar that may be, and looks at the lengths of what it answers, and that nothing goes on by the end.
func asked(t *testing.T, g api.Grammar) api.Table {
	t.Helper()
	x, e := table.Of(g)
	if e != api.OK {
		t.Fatalf("Of %v: %v", g, e)
	}
	if len(x.Cells) != len(x.Goto) {
		t.Fatalf("Of %v: %d states in Cells, %d in Goto", g, len(x.Cells), len(x.Goto))
	}
	for i := range x.Cells {
		if len(x.Cells[i]) != g.Terms+1 || len(x.Goto[i]) != g.Names {
			t.Fatalf("Of %v: the state %d: Cells are of the terms and the end, Goto of the names: %v", g, i, x)
		}
		if x.Cells[i][g.Terms].Shift != -1 {
			t.Fatalf("Of %v: the state %d: the end's Shift is %d", g, i, x.Cells[i][g.Terms].Shift)
		}
	}
	return x
}

type tableCase struct {
	what    string
	g       api.Grammar
	want    string
	clashes int
}

// wantTables holds whole tables, and their clashes, against what was worked out by hand.
func wantTables(t *testing.T, cases []tableCase) {
	t.Helper()
	for _, c := range cases {
		x := asked(t, c.g)
		if got := told(x); got != c.want {
			t.Errorf("%s:\n%s, not\n%s", c.what, got, c.want)
		}
		if got := table.Clashes(x); got != c.clashes {
			t.Errorf("%s: %d clashes, not %d", c.what, got, c.clashes)
		}
	}
}

func copied(g api.Grammar) api.Grammar {
	out := g
	out.Rules = nil
	for _, r := range g.Rules {
		out.Rules = append(out.Rules, api.Rule{Left: r.Left, Right: slices.Clone(r.Right)})
	}
	return out
}

func same(a, b api.Grammar) bool {
	return a.Terms == b.Terms && a.Names == b.Names && slices.EqualFunc(a.Rules, b.Rules, func(x, y api.Rule) bool {
		return x.Left == y.Left && slices.Equal(x.Right, y.Right)
	})
}

// eachOf calls do with so many grammars, the same ones each time, of less than so many terms, names and so on.
func eachOf(many, terms, names, rules, right int, do func(g api.Grammar)) {
	state := uint32(1)
	below := func(n int) int {
		state = state*1664525 + 1013904223
		return int(state>>16) % n
	}
	for range many {
		g := with(below(terms), 1+below(names))
		for range below(rules) {
			r := rule(below(g.Names))
			for range below(right) {
				if below(2) == 0 && g.Terms > 0 {
					r.Right = append(r.Right, term(below(g.Terms)))
				} else {
					r.Right = append(r.Right, name(below(g.Names)))
				}
			}
			g.Rules = append(g.Rules, r)
		}
		do(g)
	}
}

// eachSmall calls do with many small grammars.
func eachSmall(do func(g api.Grammar)) {
	eachOf(3000, 4, 4, 9, 4, do)
}
