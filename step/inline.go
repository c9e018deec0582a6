package step

import (
	"slices"

	"pollarding/api"
)

// inline puts the Rights of a name's rules in its place, in one rule.
type inline struct {
	carrier
	choices []int // the numbers of the name's rules
	at      int   // which one of the rule's names it is
}

func inlineOf(c carrier) (change, bool) {
	if !isBelow(c.A, len(c.Rules)) || c.C != 0 {
		return nil, false
	}
	r := c.Rules[c.A]
	if !isBelow(c.B, len(r.Right)) {
		return nil, false
	}
	s := r.Right[c.B]
	if s.Term || s.N == r.Left {
		return nil, false
	}
	return inline{c, rulesOf(c.Rules, s.N), namesIn(r.Right[:c.B])}, true
}

// rulesOf answers the numbers of the rules of a name, rising.
func rulesOf(rules []api.Rule, name int) []int {
	var out []int
	for i, r := range rules {
		if r.Left == name {
			out = append(out, i)
		}
	}
	return out
}

func (x inline) outcome() api.Grammar {
	r := x.Rules[x.A]
	var put []api.Rule
	for _, chosen := range x.choices {
		right := slices.Concat(r.Right[:x.B], x.Rules[chosen].Right, r.Right[x.B+1:])
		put = append(put, api.Rule{Left: r.Left, Right: right})
	}
	rules := x.copies()
	return x.with(x.Names, slices.Concat(rules[:x.A], put, rules[x.A+1:]))
}

// forward makes each rule A and the one within it, that its name became, one. It goes from the top: the number of the one within is asked ahead of what it becomes.
func (x inline) forward(t tree) tree {
	if t.rule != x.A {
		return tree{x.numberForward(t.rule), each(t.within, x.forward)}
	}
	one := t.within[x.at]
	within := slices.Concat(t.within[:x.at], one.within, t.within[x.at+1:])
	return tree{x.A + slices.Index(x.choices, one.rule), each(within, x.forward)}
}

// back makes two of each rule that came in the place of A.
func (x inline) back(t tree) tree {
	within := each(t.within, x.back)
	choice := t.rule - x.A
	if !isBelow(choice, len(x.choices)) {
		return tree{x.numberBack(t.rule), within}
	}
	chosen := x.choices[choice]
	end := x.at + namesIn(x.Rules[chosen].Right)
	one := tree{chosen, within[x.at:end]}
	return tree{x.A, slices.Concat(within[:x.at], []tree{one}, within[end:])}
}

// numberForward answers the number that a rule other than A gets, for those behind A make room for what comes in its place.
func (x inline) numberForward(rule int) int {
	if rule < x.A {
		return rule
	}
	return rule - 1 + len(x.choices)
}

func (x inline) numberBack(rule int) int {
	if rule < x.A {
		return rule
	}
	return rule + 1 - len(x.choices)
}
