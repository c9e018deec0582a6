package table

import (
	"cmp"
	"slices"

	"pollarding/api"
)

// item is a rule, and how many symbols of its Right are read.
type item struct{ rule, read int }

// readOn answers the item with one symbol more read.
func (it item) readOn() item {
	it.read++
	return it
}

// way is a state, and a symbol by which it goes on.
type way struct {
	from int
	by   api.Sym
}

// maker makes the table of a grammar.
type maker struct {
	api.Grammar
	known  api.Sets
	states [][]item    // of each state its items, in order
	goes   map[way]int // which state each state goes on to
	looks  map[spot]ahead
	open   []spot // spots that are to be looked at, for others may get something by them
}

// above is the number of the rule above, which stands behind all others. It is not put among the Rules themselves, for they are not the maker's to change.
func (m *maker) above() int { return len(m.Rules) }

func (m *maker) right(rule int) []api.Sym {
	if rule == m.above() {
		return []api.Sym{{Term: false, N: 0}}
	}
	return m.Rules[rule].Right
}

// next answers the next symbol of an item; there is none, if it is read whole.
func (m *maker) next(it item) (api.Sym, bool) {
	right := m.right(it.rule)
	if it.read == len(right) {
		return api.Sym{}, false
	}
	return right[it.read], true
}

// findStates finds the states, numbered as F1 says, and tells whether there are no more of them than there may be. (It stops at the first one too many: there might be very many.)
func (m *maker) findStates() bool {
	m.stateOf([]item{{rule: m.above()}})
	symbols := m.symbols()
	for from := 0; from < len(m.states); from++ {
		for _, by := range symbols {
			begin := m.begin(from, by)
			if len(begin) == 0 {
				continue
			}
			m.goes[way{from, by}] = m.stateOf(begin)
			if len(m.states) > api.MaxStates {
				return false
			}
		}
	}
	return true
}

// symbols answers all symbols in the order in which states are gone on from.
func (m *maker) symbols() []api.Sym {
	var all []api.Sym
	for n := range m.Terms {
		all = append(all, api.Sym{Term: true, N: n})
	}
	for n := range m.Names {
		all = append(all, api.Sym{N: n})
	}
	return all
}

// begin answers the items of a state whose next symbol is by, with that symbol read.
func (m *maker) begin(from int, by api.Sym) []item {
	var out []item
	for _, it := range m.states[from] {
		if next, ok := m.next(it); ok && next == by {
			out = append(out, it.readOn())
		}
	}
	return out
}

// stateOf answers the number of the state that has begin and what closes it; if it is not there already, it becomes the last one.
func (m *maker) stateOf(begin []item) int {
	items := m.closed(begin)
	isIt := func(state []item) bool { return slices.Equal(state, items) }
	if n := slices.IndexFunc(m.states, isIt); n >= 0 {
		return n
	}
	m.states = append(m.states, items)
	return len(m.states) - 1
}

// closed answers begin and what closes it, in order, so that the same items are the same list. No item of begin but the one above has nothing read, so none comes twice.
func (m *maker) closed(begin []item) []item {
	items := slices.Clone(begin)
	done := make([]bool, m.Names)
	for i := 0; i < len(items); i++ {
		next, ok := m.next(items[i])
		if !ok || next.Term || done[next.N] {
			continue
		}
		done[next.N] = true
		items = append(items, m.rulesOf(next.N)...)
	}
	slices.SortFunc(items, func(a, b item) int {
		return cmp.Or(cmp.Compare(a.rule, b.rule), cmp.Compare(a.read, b.read))
	})
	return items
}

// rulesOf answers all rules of a name, with nothing read.
func (m *maker) rulesOf(name int) []item {
	var out []item
	for i, r := range m.Rules {
		if r.Left == name {
			out = append(out, item{rule: i})
		}
	}
	return out
}
