package table

import "pollarding/api"

// none is told where a state does not go on.
const none = -1

// table writes down what was found. Each list is made on its own, so that no two share memory.
func (m *maker) table() api.Table {
	var t api.Table
	for state := range m.states {
		t.Cells = append(t.Cells, m.cells(state))
		t.Goto = append(t.Goto, m.gotos(state))
	}
	return t
}

// cells answers a state's cells, of each term and of the end. No state goes on by the end, which is no symbol, so its Shift is none.
func (m *maker) cells(state int) []api.Cell {
	cells := make([]api.Cell, m.Terms+1)
	for n := range cells {
		cells[n].Shift = m.goesTo(state, api.Sym{Term: true, N: n})
	}
	for _, it := range m.states[state] {
		if _, more := m.next(it); more {
			continue
		}
		looks := m.looks[spot{state, it}]
		for n := range cells {
			if looks.has(n) {
				m.put(&cells[n], it.rule)
			}
		}
	}
	return cells
}

// put puts into a cell that a rule is read whole. A state's items stand in the order of their rules, so the numbers rise.
func (m *maker) put(c *api.Cell, rule int) {
	if rule == m.above() {
		c.End = true
		return
	}
	c.Rules = append(c.Rules, rule)
}

// gotos answers, of each name, where a state goes on.
func (m *maker) gotos(state int) []int {
	out := make([]int, m.Names)
	for n := range out {
		out[n] = m.goesTo(state, api.Sym{N: n})
	}
	return out
}

func (m *maker) goesTo(state int, by api.Sym) int {
	if to, ok := m.goes[way{state, by}]; ok {
		return to
	}
	return none
}
