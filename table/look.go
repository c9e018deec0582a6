package table

import "pollarding/api"

// spot is an item in a state.
type spot struct {
	state int
	item
}

// ahead is a set of terms, and the end: a bit of each. (MaxTerms is far below the bits that there are.)
type ahead uint32

func one(n int) ahead { return 1 << n }

func (a ahead) has(n int) bool { return a&one(n) != 0 }

// findLooks finds the lookaheads (F2). Each spot is looked at once at least, also if it never has any itself: what stands behind a name does not hang on that. Sets only grow, so it ends; and nothing is given without a reason, so they are the least ones.
func (m *maker) findLooks() {
	for state, items := range m.states {
		for _, it := range items {
			m.open = append(m.open, spot{state, it})
		}
	}
	m.give(spot{0, item{rule: m.above()}}, one(m.Terms))
	for len(m.open) > 0 {
		last := len(m.open) - 1
		at := m.open[last]
		m.open = m.open[:last]
		m.look(at)
	}
}

// give lets a spot have lookaheads; if one of them is new, the spot is to be looked at again.
func (m *maker) give(to spot, more ahead) {
	had := m.looks[to]
	if had|more == had {
		return
	}
	m.looks[to] = had | more
	m.open = append(m.open, to)
}

// look gives what others have by the item of a spot: the same item where it is read on, and the rules of its next name.
func (m *maker) look(at spot) {
	next, ok := m.next(at.item)
	if !ok {
		return
	}
	has := m.looks[at]
	m.give(spot{m.goes[way{at.state, next}], at.readOn()}, has)
	if next.Term {
		return
	}
	first, null := m.behind(at.item)
	if null {
		first |= has
	}
	for _, it := range m.rulesOf(next.N) {
		m.give(spot{at.state, it}, first)
	}
}

// behind answers what may begin what is behind the next symbol of an item, and whether all of that is Null.
func (m *maker) behind(it item) (first ahead, null bool) {
	for _, s := range m.right(it.rule)[it.read+1:] {
		first |= m.first(s)
		if s.Term || !m.known.Null[s.N] {
			return first, false
		}
	}
	return first, true
}

// first answers what a symbol may begin with.
func (m *maker) first(s api.Sym) ahead {
	if s.Term {
		return one(s.N)
	}
	var out ahead
	for n, has := range m.known.First[s.N] {
		if has {
			out |= one(n)
		}
	}
	return out
}
