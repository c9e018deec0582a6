package step

import "pollarding/api"

// swap lets two names change places.
type swap struct{ carrier }

func swapOf(c carrier) (change, bool) {
	isName := func(n int) bool { return n > 0 && n < c.Names }
	return swap{c}, isName(c.A) && isName(c.B) && c.C == 0
}

func (x swap) outcome() api.Grammar {
	other := func(n int) int {
		switch n {
		case x.A:
			return x.B
		case x.B:
			return x.A
		}
		return n
	}
	rules := x.copies()
	for i, r := range rules {
		rules[i].Left = other(r.Left)
		swapIn(r.Right, other)
	}
	return x.with(x.Names, rules)
}

// swapIn puts, for each name of syms, its other one.
func swapIn(syms []api.Sym, other func(n int) int) {
	for i, s := range syms {
		if !s.Term {
			syms[i].N = other(s.N)
		}
	}
}

// Rules keep their numbers, so derivations stay as they are.
func (x swap) forward(t tree) tree { return t }

func (x swap) back(t tree) tree { return t }
