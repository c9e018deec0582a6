package step

import "pollarding/api"

// carrier is who carries over: a grammar that may be, and the step that is done on it.
type carrier struct {
	api.Grammar
	api.Step
}

// change is a step that is one of H1's. Trees that it is given are those of derivations.
type change interface {
	outcome() api.Grammar
	forward(t tree) tree
	back(t tree) tree
}

// changeOf answers the change that the step is, if it is one.
func changeOf(c carrier) (change, bool) {
	switch c.Op {
	case api.SSwap:
		return swapOf(c)
	case api.SExtract:
		return extractOf(c)
	case api.SInline:
		return inlineOf(c)
	case api.SLeft:
		return leftOf(c)
	case api.SPrune:
		return pruneOf(c)
	}
	return nil, false
}

// with answers a grammar of the same terms, but with other names and rules.
func (c carrier) with(names int, rules []api.Rule) api.Grammar {
	return api.Grammar{Terms: c.Terms, Names: names, Rules: rules}
}

// copies answers the rules, in memory of their own.
func (c carrier) copies() []api.Rule {
	var out []api.Rule
	for _, r := range c.Rules {
		out = append(out, copied(r))
	}
	return out
}

func copied(r api.Rule) api.Rule {
	return api.Rule{Left: r.Left, Right: append([]api.Sym{}, r.Right...)}
}

// more is the name that is there more, behind a step that puts one.
func (c carrier) more() api.Sym { return api.Sym{N: c.Names} }

// last is the number of the rule that is there more, behind a step that puts one: the last one.
func (c carrier) last() int { return len(c.Rules) }

func isBelow(n, end int) bool { return n >= 0 && n < end }

// namesIn tells how many of the symbols are names: so many trees there are of them.
func namesIn(syms []api.Sym) int {
	names := 0
	for _, s := range syms {
		if !s.Term {
			names++
		}
	}
	return names
}
