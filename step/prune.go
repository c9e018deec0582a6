package step

import (
	"slices"

	"pollarding/api"
	"pollarding/reach"
)

// prune leaves rules out that no derivation of the name 0 has.
type prune struct {
	carrier
	stay []int // the numbers of the rules that stay, rising
}

func pruneOf(c carrier) (change, bool) {
	if c.A != 0 || c.B != 0 || c.C != 0 {
		return nil, false
	}
	// The grammar may be, so neither of these tells an error.
	makes, _ := reach.Makes(c.Grammar)
	comes, _ := reach.Comes(c.Grammar)
	makesNot := func(s api.Sym) bool { return !s.Term && !makes[s.N] }
	x := prune{carrier: c}
	for i, r := range c.Rules {
		if makes[r.Left] && comes[r.Left] && !slices.ContainsFunc(r.Right, makesNot) {
			x.stay = append(x.stay, i)
		}
	}
	return x, true
}

func (x prune) outcome() api.Grammar {
	var rules []api.Rule
	for _, i := range x.stay {
		rules = append(rules, copied(x.Rules[i]))
	}
	return x.with(x.Names, rules)
}

// forward finds all rules of a derivation among those that stay (C2).
func (x prune) forward(t tree) tree {
	return tree{slices.Index(x.stay, t.rule), each(t.within, x.forward)}
}

func (x prune) back(t tree) tree {
	return tree{x.stay[t.rule], each(t.within, x.back)}
}
