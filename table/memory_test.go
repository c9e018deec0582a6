package table_test

import (
	"math"
	"slices"
	"testing"

	"pollarding/api"
	"pollarding/gram"
	"pollarding/table"
)

// roomy has, behind the lengths of its lists, rules and symbols by which its table would be another.
func roomy() api.Grammar {
	g := with(2, 2)
	for _, r := range []api.Rule{rule(0, name(0), name(1)), rule(0), rule(1, term(0)), rule(1)} {
		right := append(make([]api.Sym, 0, 12), r.Right...)
		rest := right[len(right):12]
		for i := range rest {
			rest[i] = term(1)
		}
		g.Rules = append(g.Rules, api.Rule{Left: r.Left, Right: right})
	}
	behind := append(g.Rules, rule(0, term(1)), rule(1, term(1)))
	g.Rules = behind[:4]
	return g
}

const roomyTold = "t0:1 e:1 n0>1 | t0>2 t0:3 e:3 e! n1>3 | t0:2 e:2 | t0:0 e:0"

// P3: what is handed in stays as it is, and what lies behind the lists' lengths is neither read nor written.
func TestHandedInStays(t *testing.T) {
	g := roomy()
	was := copied(g)
	wantTables(t, []tableCase{{"with more behind its lists", g, roomyTold, 2}})
	if !same(g, was) {
		t.Error("what was handed in has changed", g)
	}
	for _, r := range g.Rules {
		for _, s := range r.Right[len(r.Right):12] {
			if s != term(1) {
				t.Error("what lies behind a Right has changed", s)
			}
		}
	}
	behind := with(2, 2, g.Rules[:6][4:]...)
	if !same(behind, with(2, 2, rule(0, term(1)), rule(1, term(1)))) {
		t.Error("what lies behind the rules has changed", behind)
	}
}

// numbers are all lists of numbers in a table, up to what they may grow to in place.
func numbers(x api.Table) [][]int {
	var out [][]int
	for _, l := range x.Goto {
		out = append(out, l[:cap(l)])
	}
	for _, cells := range x.Cells {
		for _, c := range cells {
			out = append(out, c.Rules[:cap(c.Rules)])
		}
	}
	return out
}

// wantApart fills each list in turn, and asks whether another one has something of it.
func wantApart[E any](t *testing.T, lists [][]E, fill E, isFilled func(E) bool) {
	t.Helper()
	for i, one := range lists {
		for _, l := range lists {
			clear(l)
		}
		for k := range one {
			one[k] = fill
		}
		for k, l := range lists {
			if k != i && slices.ContainsFunc(l, isFilled) {
				t.Fatalf("the lists %d and %d share memory", i, k)
			}
		}
	}
}

// P3: no two lists of an answer share memory, and none is kept for the next one.
func TestAnswersAreNew(t *testing.T) {
	for _, g := range []api.Grammar{roomy(), tree(20, 6, name(1)), with(2, 1, slices.Repeat([]api.Rule{rule(0, term(1))}, 9)...)} {
		want := told(asked(t, g))
		x, y := asked(t, g), asked(t, g)
		wantApart(t, append(numbers(x), numbers(y)...), 7, func(n int) bool { return n != 0 })
		var rows [][]api.Cell
		for _, cells := range slices.Concat(x.Cells, y.Cells) {
			rows = append(rows, cells[:cap(cells)])
		}
		wantApart(t, rows, api.Cell{End: true}, func(c api.Cell) bool { return c.End })
		wantApart(t, [][][]int{x.Goto[:cap(x.Goto)], y.Goto[:cap(y.Goto)]}, []int{}, func(l []int) bool { return l != nil })
		wantApart(t, [][][]api.Cell{x.Cells[:cap(x.Cells)], y.Cells[:cap(y.Cells)]}, []api.Cell{}, func(l []api.Cell) bool { return l != nil })
		if got := told(asked(t, g)); got != want {
			t.Error("an answer hangs on what was done to an earlier one:", got)
		}
	}
	g := roomy()
	kept := asked(t, g)
	g.Rules[0].Right[0] = term(1)
	if got := told(kept); got != roomyTold {
		t.Error("an answer hangs on what was handed in:", got)
	}
	if got := told(asked(t, g)); got == roomyTold {
		t.Error("an answer hangs on what was handed in earlier:", got)
	}
}

// P3: the same arguments have the same answer.
func TestTheSameAgain(t *testing.T) {
	for _, g := range []api.Grammar{roomy(), subsets(5), tree(20, 6, term(5))} {
		want := told(asked(t, g))
		for range 20 {
			if got := told(asked(t, g)); got != want {
				t.Fatalf("%s, and again %s", want, got)
			}
		}
	}
}

// P3: lists that are nil and lists that are empty are the same.
func TestNilOrEmpty(t *testing.T) {
	for _, rules := range [][]api.Rule{nil, {}} {
		wantTables(t, []tableCase{{"no rules", with(1, 1, rules...), "n0>1 | e!", 0}})
	}
	for _, right := range [][]api.Sym{nil, {}} {
		wantTables(t, []tableCase{{"no symbols", with(1, 1, api.Rule{Right: right}), "e:0 n0>1 | e!", 0}})
	}
}

// P1 and P2: no grammar makes Of panic, and it tells of those alone that may be.
func TestNothingPanics(t *testing.T) {
	wild := []int{math.MinInt, -1, 0, 1, 2, api.MaxNames + 1, math.MaxInt}
	for _, terms := range wild {
		for _, names := range wild {
			for _, n := range wild {
				for _, g := range []api.Grammar{
					with(terms, names),
					with(terms, names, rule(n)),
					with(terms, names, rule(0, name(n), term(n)), rule(0)),
					with(terms, names, rule(0, term(n), name(n)), rule(n, name(0), name(n))),
					with(terms, names, rule(0, manySyms(30, name(n))...)),
				} {
					if gram.May(g) {
						wantWords(t, g)
						continue
					}
					if x, e := table.Of(g); e != api.ErrForm || len(x.Cells)+len(x.Goto) > 0 {
						t.Fatalf("%v: %v %v", g, x, e)
					}
				}
			}
		}
	}
}
