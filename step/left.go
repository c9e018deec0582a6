package step

import (
	"slices"

	"pollarding/api"
)

// left turns rules of a name that begin with it into rules of another name, that end with that one.
type left struct{ carrier }

func leftOf(c carrier) (change, bool) {
	if !isBelow(c.A, c.Names) || c.B != 0 || c.C != 0 {
		return nil, false
	}
	x := left{c}
	some := false
	for i, r := range c.Rules {
		if !x.begins(i) {
			continue
		}
		if len(r.Right) == 1 {
			return nil, false
		}
		some = true
	}
	return x, some
}

// begins tells whether a rule is one of A that begins with A.
func (x left) begins(rule int) bool {
	r := x.Rules[rule]
	return r.Left == x.A && len(r.Right) > 0 && r.Right[0] == api.Sym{N: x.A}
}

func (x left) outcome() api.Grammar {
	rules := x.copies()
	end := []api.Sym{x.more()}
	for i, r := range x.Rules {
		switch {
		case x.begins(i):
			rules[i] = api.Rule{Left: x.more().N, Right: slices.Concat(r.Right[1:], end)}
		case r.Left == x.A:
			rules[i].Right = slices.Concat(r.Right, end)
		}
	}
	rules = append(rules, api.Rule{Left: x.more().N})
	return x.with(x.Names+1, rules)
}

// forward turns rules that begin with A, within one another, inside out: each of them comes to stand within the next inner one, and the innermost within the one that ends them.
func (x left) forward(t tree) tree {
	if x.Rules[t.rule].Left != x.A {
		return tree{t.rule, each(t.within, x.forward)}
	}
	behind := tree{rule: x.last()}
	for x.begins(t.rule) {
		behind = tree{t.rule, append(each(t.within[1:], x.forward), behind)}
		t = t.within[0]
	}
	return tree{t.rule, append(each(t.within, x.forward), behind)}
}

// back turns them again. The new name stands at the end of rules alone that this goes through itself, so no rule of it is handed in.
func (x left) back(t tree) tree {
	if x.Rules[t.rule].Left != x.A {
		return tree{t.rule, each(t.within, x.back)}
	}
	within, behind := parted(t.within)
	out := tree{t.rule, each(within, x.back)}
	for behind.rule != x.last() {
		rule := behind.rule
		within, behind = parted(behind.within)
		out = tree{rule, slices.Concat([]tree{out}, each(within, x.back))}
	}
	return out
}

// parted answers all trees but the last one, and that one.
func parted(trees []tree) ([]tree, tree) {
	last := len(trees) - 1
	return trees[:last], trees[last]
}
