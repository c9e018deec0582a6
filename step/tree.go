package step

import (
	"pollarding/api"
	"pollarding/gram"
)

// tree is a rule's number, and what the names of its Right have become, in order.
type tree struct {
	rule   int
	within []tree
}

// treeOf answers the tree that d tells, if d is a derivation of the name 0 of g.
func treeOf(g api.Grammar, d []int) (tree, bool) {
	// Which lists are derivations is for gram to say; what is read behind this is known to be one.
	if _, ok := gram.Yield(g, d); !ok {
		return tree{}, false
	}
	t, _ := grown(g.Rules, d)
	return t, true
}

// grown answers the tree that d begins with, and what of d is behind it.
func grown(rules []api.Rule, d []int) (tree, []int) {
	t := tree{rule: d[0]}
	d = d[1:]
	for _, s := range rules[t.rule].Right {
		if s.Term {
			continue
		}
		var w tree
		w, d = grown(rules, d)
		t.within = append(t.within, w)
	}
	return t, d
}

// list goes through the tree from the top, and from the left.
func (t tree) list() []int {
	out := []int{t.rule}
	for _, w := range t.within {
		out = append(out, w.list()...)
	}
	return out
}

// each answers what the trees become, in order.
func each(trees []tree, over func(t tree) tree) []tree {
	var out []tree
	for _, t := range trees {
		out = append(out, over(t))
	}
	return out
}
