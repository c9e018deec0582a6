package table_test

import (
	"math"
	"slices"
	"testing"

	"pollarding/api"
	"pollarding/table"
)

// F4: of a cell alone, whether it says more than one thing.
func TestClashOfACell(t *testing.T) {
	for _, c := range []struct {
		cell api.Cell
		want int
	}{
		{api.Cell{Shift: -1}, 0},
		{api.Cell{Shift: -1, Rules: []int{}}, 0},
		{api.Cell{Shift: 3}, 0},
		{api.Cell{Shift: 0}, 0},
		{api.Cell{Shift: -1, Rules: []int{2}}, 0},
		{api.Cell{Shift: -1, End: true}, 0},
		{api.Cell{Shift: 3, Rules: []int{0}}, 1},
		{api.Cell{Shift: 0, Rules: []int{0}}, 1},
		{api.Cell{Shift: 3, End: true}, 1},
		{api.Cell{Shift: 0, End: true}, 1},
		{api.Cell{Shift: -1, Rules: []int{0}, End: true}, 1},
		{api.Cell{Shift: -1, Rules: []int{0, 1}}, 1},
		{api.Cell{Shift: -1, Rules: []int{0, 1, 2, 3, 4}}, 1},
		{api.Cell{Shift: 1, Rules: []int{4, 5}}, 1},
		{api.Cell{Shift: -1, Rules: []int{4, 5}, End: true}, 1},
		{api.Cell{Shift: 1, Rules: []int{4}, End: true}, 1},
		{api.Cell{Shift: 1, Rules: []int{4, 5, 6}, End: true}, 1},
	} {
		for _, x := range []api.Table{
			{Cells: [][]api.Cell{{c.cell}}},
			{Cells: [][]api.Cell{{c.cell}}, Goto: [][]int{{1, 0}}},
			{Cells: [][]api.Cell{nil, {{Shift: -1}, {Shift: 7}}, {{Shift: 2}, c.cell, {Shift: -1, Rules: []int{1}}}, {}}},
		} {
			if got := table.Clashes(x); got != c.want {
				t.Errorf("%v: %d, not %d", x, got, c.want)
			}
		}
	}
}

// F4: each cell that clashes counts once, wherever it stands.
func TestClashesAreCounted(t *testing.T) {
	two, one := api.Cell{Shift: -1, Rules: []int{0, 1}}, api.Cell{Shift: -1, Rules: []int{1}}
	for states := range 5 {
		for cells := range 5 {
			for from := range cells + 1 {
				row := append(slices.Repeat([]api.Cell{one}, from), slices.Repeat([]api.Cell{two}, cells-from)...)
				x := api.Table{Cells: slices.Repeat([][]api.Cell{row}, states)}
				if got := table.Clashes(x); got != states*(cells-from) {
					t.Errorf("%v: %d, not %d", x, got, states*(cells-from))
				}
			}
		}
	}
	many := api.Table{Cells: slices.Repeat([][]api.Cell{slices.Repeat([]api.Cell{two}, 300)}, 1000)}
	if got := table.Clashes(many); got != 300000 {
		t.Error(got)
	}
}

// P1: tables that no grammar has: empty ones, and states and rules that there are none of.
func TestTablesOfNoGrammar(t *testing.T) {
	wild := []int{math.MinInt, math.MaxInt, -1, 1000}
	for _, c := range []struct {
		what string
		x    api.Table
		want int
	}{
		{"nothing", api.Table{}, 0},
		{"empty lists", api.Table{Cells: [][]api.Cell{}, Goto: [][]int{}}, 0},
		{"states without cells", api.Table{Cells: make([][]api.Cell, 7)}, 0},
		{"Goto alone", api.Table{Goto: [][]int{wild, nil, {0, 0, 0}}}, 0},
		{"other states in Goto", api.Table{Cells: [][]api.Cell{{{Shift: 1, End: true}}}, Goto: [][]int{nil, wild, wild}}, 1},
		{"a Shift beyond the states", api.Table{Cells: [][]api.Cell{{{Shift: math.MaxInt}, {Shift: math.MaxInt, Rules: []int{0}}}}}, 1},
		{"rules that there are none of", api.Table{Cells: [][]api.Cell{{{Shift: -1, Rules: wild}, {Shift: -1, Rules: wild[:1]}}}}, 1},
		{"the same rule twice", api.Table{Cells: [][]api.Cell{{{Shift: -1, Rules: []int{3, 3}}}}}, 1},
		{"falling rules", api.Table{Cells: [][]api.Cell{{{Shift: -1, Rules: []int{3, 1}}}}}, 1},
		{"states of several lengths", api.Table{Cells: [][]api.Cell{{}, {{Shift: 2, Rules: []int{0}}}, nil, {{Shift: -1}, {Shift: 0, End: true}}}}, 2},
		{"cells that are zero go on to the state 0", api.Table{Cells: [][]api.Cell{make([]api.Cell, 4)}}, 0},
	} {
		if got := table.Clashes(c.x); got != c.want {
			t.Errorf("%s: %d, not %d", c.what, got, c.want)
		}
	}
	for _, n := range wild {
		for _, end := range []bool{false, true} {
			// Whether a number below -1 is a Shift is not said; but a call ends.
			table.Clashes(api.Table{Cells: [][]api.Cell{{{Shift: n, Rules: wild, End: end}, {Shift: n, End: end}}}})
		}
	}
}

// P3: what is handed in stays as it is, and what lies behind the lists' lengths is not read.
func TestTableStays(t *testing.T) {
	two := api.Cell{Shift: -1, Rules: []int{0, 1}}
	row := []api.Cell{{Shift: -1, Rules: two.Rules[:1]}, {Shift: 1, Rules: two.Rules[:0]}, two}
	x := api.Table{Cells: [][]api.Cell{row[:2], row[:3], row}[:1]}
	for range 3 {
		if got := table.Clashes(x); got != 0 {
			t.Errorf("%d clashes, with others behind the lists' lengths", got)
		}
	}
	if !slices.Equal(two.Rules, []int{0, 1}) || len(x.Cells) != 1 || !sameCell(row[2], two) || row[1].Shift != 1 || len(x.Cells[:3][2]) != 3 {
		t.Error("what was handed in has changed", x, row)
	}
}
