package table_test

import (
	"slices"
	"testing"

	"pollarding/api"
	"pollarding/gram"
)

// eachDerivation calls do with the derivations of the name 0, of at most that many rules.
func eachDerivation(g api.Grammar, longest int, do func(d []int)) {
	var derive func(d []int, open []api.Sym)
	derive = func(d []int, open []api.Sym) {
		for len(open) > 0 && open[0].Term {
			open = open[1:]
		}
		if len(open) == 0 {
			do(d)
			return
		}
		if len(d) == longest {
			return
		}
		for i, r := range g.Rules {
			if r.Left == open[0].N {
				derive(append(d[:len(d):len(d)], i), slices.Concat(r.Right, open[1:]))
			}
		}
	}
	derive(nil, []api.Sym{name(0)})
}

// follower goes through the tree of a derivation from the left, each rule behind what is within it, and asks a table whether it says so too.
type follower struct {
	api.Grammar
	api.Table
	d, yield []int
	read     int
	stack    []int
	ok       bool
}

func (f *follower) cell() api.Cell {
	ahead := f.Terms
	if f.read < len(f.yield) {
		ahead = f.yield[f.read]
	}
	return f.Cells[f.stack[len(f.stack)-1]][ahead]
}

func (f *follower) put(state int) {
	f.ok = f.ok && state >= 0 && state < len(f.Cells)
	if f.ok {
		f.stack = append(f.stack, state)
	}
}

func (f *follower) name() {
	i := f.d[0]
	f.d = f.d[1:]
	for _, s := range f.Rules[i].Right {
		if !f.ok {
			return
		}
		if !s.Term {
			f.name()
			continue
		}
		f.put(f.cell().Shift)
		f.read++
	}
	if !f.ok || !slices.Contains(f.cell().Rules, i) {
		f.ok = false
		return
	}
	f.stack = f.stack[:len(f.stack)-len(f.Rules[i].Right)]
	f.put(f.Goto[f.stack[len(f.stack)-1]][f.Rules[i].Left])
}

// F1 to F3: all that a derivation does, from its beginning to the End, the table says.
func TestDerivationsAreSaid(t *testing.T) {
	looked := 0
	eachSmall(func(g api.Grammar) {
		x := asked(t, g)
		eachDerivation(g, 4, func(d []int) {
			yield, ok := gram.Yield(g, d)
			if !ok {
				t.Fatalf("%v: %v is no derivation", g, d)
			}
			f := follower{Grammar: g, Table: x, d: d, yield: yield, stack: []int{0}, ok: true}
			f.name()
			if !f.ok || f.read != len(yield) || len(f.stack) != 2 || !f.cell().End {
				t.Fatalf("%v: the table does not say what the derivation %v does: %s", g, d, told(x))
			}
			looked++
		})
	})
	if looked < 10000 {
		t.Error("too few derivations were looked at:", looked)
	}
}
