package text_test

import (
	"math"
	"strings"
	"testing"

	"pollarding/api"
	"pollarding/gram"
	"pollarding/text"
)

const roomyText = "terms 2 names 3\nn0: n1 t0 n0\nn1:\nn2: t1 n2 t1 n2 t1\nn0: n2\n"

// roomy has, behind the lengths of its lists, rules and symbols that would have another text.
func roomy() api.Grammar {
	g := with(2, 3)
	for _, right := range [][]api.Sym{{name(1), term(0), name(0)}, {}, {term(1), name(2), term(1), name(2), term(1)}, {name(2)}} {
		room := append(make([]api.Sym, 0, 12), right...)
		rest := room[len(room):12]
		for i := range rest {
			rest[i] = term(77)
		}
		g.Rules = append(g.Rules, api.Rule{Right: room})
	}
	g.Rules[1].Left, g.Rules[2].Left = 1, 2
	g.Rules = append(g.Rules, rule(77), rule(0, name(77)))[:4]
	return g
}

// P3: what is handed in stays as it is, and what lies behind the lists' lengths is neither read nor written.
func TestHandedInStays(t *testing.T) {
	g := roomy()
	was := copied(g)
	if s := printed(t, g); s != roomyText {
		t.Errorf("%q, not %q", s, roomyText)
	}
	if !same(g, was) {
		t.Error("what was handed in has changed", g)
	}
	for _, r := range g.Rules {
		for _, s := range r.Right[len(r.Right):12] {
			if s != term(77) {
				t.Error("what lies behind a Right has changed", s)
			}
		}
	}
	if behind := with(2, 3, g.Rules[:6][4:]...); !same(behind, with(2, 3, rule(77), rule(0, name(77)))) {
		t.Error("what lies behind the rules has changed", behind)
	}
}

// fill writes over all memory of a grammar's lists.
func fill(g api.Grammar) {
	for _, r := range g.Rules {
		fillRight(r)
	}
	rules := g.Rules[:cap(g.Rules)]
	for i := range rules {
		rules[i].Left = 55
	}
}

func fillRight(r api.Rule) {
	all := r.Right[:cap(r.Right)]
	for i := range all {
		all[i] = term(55)
	}
}

// P3: answers share nothing with each other, and no two lists of one share any.
func TestAnswersAreNew(t *testing.T) {
	for _, s := range []string{chapterText, roomyText, printed(t, full())} {
		g, other := parsed(t, s), parsed(t, s)
		fill(g)
		if printed(t, other) != s || !same(parsed(t, s), other) {
			t.Errorf("two answers share memory: %v", other)
		}
		for i, r := range other.Rules {
			was := copied(other)
			fillRight(r)
			for k := range other.Rules {
				if k != i && !same(with(1, 1, other.Rules[k]), with(1, 1, was.Rules[k])) {
					t.Fatalf("the rules %d and %d share memory: %v", i, k, other)
				}
			}
		}
	}
}

// P3: a text hangs on nothing that is done to the grammar later on.
func TestHandedInIsNotKept(t *testing.T) {
	g := roomy()
	s := printed(t, g)
	fill(g)
	if s != roomyText || printed(t, roomy()) != roomyText {
		t.Errorf("a text hangs on what was handed in: %q", s)
	}
}

// P3: lists that are nil and lists that are empty are the same; and the same arguments have the same answer, whatever was asked between.
func TestTheSameAgain(t *testing.T) {
	for range 20 {
		for _, rules := range [][]api.Rule{nil, {}} {
			if s := printed(t, with(2, 3, rules...)); s != "terms 2 names 3\n" {
				t.Errorf("no rules: %q", s)
			}
		}
		for _, right := range [][]api.Sym{nil, {}} {
			if s := printed(t, with(2, 3, api.Rule{Left: 2, Right: right})); s != "terms 2 names 3\nn2:\n" {
				t.Errorf("no symbols: %q", s)
			}
		}
		wantFault(t, "between", "terms 1 names 1\nx\n", 1)
		wantNoText(t, "between", with(0, 0))
		if g := parsed(t, roomyText); !same(g, roomy()) {
			t.Error("another answer:", g)
		}
	}
}

// P1 and P2: no grammar makes Print panic, and it has a text just where it may be.
func TestPrintNeverPanics(t *testing.T) {
	wild := []int{math.MinInt, -1, 0, 1, 2, api.MaxTerms + 1, api.MaxNames + 1, math.MaxInt}
	for _, terms := range wild {
		for _, names := range wild {
			for _, n := range wild {
				for _, g := range []api.Grammar{
					with(terms, names),
					with(terms, names, rule(n)),
					with(terms, names, rule(0, term(n)), rule(0)),
					with(terms, names, rule(0), rule(0, term(0), name(n))),
					with(terms, names, rule(0, manySyms(30, name(n))...)),
					with(terms, names, manyRules(5000)...),
				} {
					s, e := text.Print(g)
					if may := gram.May(g); may != (e == api.OK) || may != (s != "") || !may && e != api.ErrForm {
						t.Fatalf("Print of %v: %q %v", g, s, e)
					}
				}
			}
		}
	}
}

// P1: long texts of all kinds end.
func TestLongTexts(t *testing.T) {
	const long = 1 << 20
	head := "terms 1 names 1\n"
	for _, c := range []struct {
		what string
		text string
		at   int
	}{
		{"empty lines", strings.Repeat("\n", long), 0},
		{"empty lines behind the first one", head + strings.Repeat("\n", long), 1},
		{"blanks", strings.Repeat(" ", long), 0},
		{"zeros", head + "n" + strings.Repeat("0", long) + ":\n", 1},
		{"nines", head + "n0: t" + strings.Repeat("9", long) + "\n", 1},
		{"nines ahead", "terms " + strings.Repeat("9", long) + " names 1\n", 0},
		{"first lines", strings.Repeat(head, long/16), 1},
		{"symbols", head + "n0:" + strings.Repeat(" n0", long) + "\n", 2},
		{"symbols and no end", head + "n0:" + strings.Repeat(" n0", long), 1},
		{"rules", head + strings.Repeat("n0: t0 n0\n", long), long + 1},
		{"rules and no end", head + strings.Repeat("n0: t0 n0\n", long) + "n0:", long + 1},
		{"no UTF-8", strings.Repeat("\xff\xfe", long), 0},
	} {
		if g, f := text.Parse(c.text); f != (api.Fault{Code: api.ErrForm, At: c.at}) || !same(g, api.Grammar{}) {
			t.Errorf("%s: %v %v, not At %d", c.what, g, f, c.at)
		}
	}
}
