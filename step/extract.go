package step

import (
	"slices"

	"pollarding/api"
)

// extract puts symbols of a rule into a rule of their own.
type extract struct {
	carrier
	from, to int // from which of the rule's names to below which they are among these symbols
}

func extractOf(c carrier) (change, bool) {
	if !isBelow(c.A, len(c.Rules)) {
		return nil, false
	}
	right := c.Rules[c.A].Right
	if c.C > len(right) || !isBelow(c.B, c.C) {
		return nil, false
	}
	return extract{c, namesIn(right[:c.B]), namesIn(right[:c.C])}, true
}

func (x extract) outcome() api.Grammar {
	right := x.Rules[x.A].Right
	rules := x.copies()
	rules[x.A].Right = slices.Concat(right[:x.B], []api.Sym{x.more()}, right[x.C:])
	rules = append(rules, api.Rule{Left: x.more().N, Right: slices.Concat(right[x.B:x.C])})
	return x.with(x.Names+1, rules)
}

// forward puts the new rule within each rule A.
func (x extract) forward(t tree) tree {
	within := each(t.within, x.forward)
	if t.rule != x.A {
		return tree{t.rule, within}
	}
	more := tree{x.last(), within[x.from:x.to]}
	return tree{t.rule, slices.Concat(within[:x.from], []tree{more}, within[x.to:])}
}

// back takes the new rule out again: what is within it comes in its place.
func (x extract) back(t tree) tree {
	within := each(t.within, x.back)
	if t.rule != x.A {
		return tree{t.rule, within}
	}
	more := within[x.from]
	return tree{t.rule, slices.Concat(within[:x.from], more.within, within[x.from+1:])}
}
