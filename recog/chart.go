package recog

import (
	"slices"

	"pollarding/api"
)

// item is a rule of whose Right so many symbols are read, and what they have become stands from the one token to below the other.
type item struct{ rule, read, from, to int }

// spot is a name, and the token at which it begins.
type spot struct{ name, at int }

// chart holds what is found of the tokens. An item tells nothing of how long the derivations are by which it came, so there are only so many items, and cycles come to an end.
type chart struct {
	api.Grammar
	tokens []int
	items  map[item]struct{}
	open   []item          // items that are not yet looked at
	waits  map[spot][]item // items whose next symbol is the spot's name, there
	ends   map[spot][]int  // to below which tokens what the name has become may stand
}

// chartOf finds all that there is of tokens, from the name 0 at their beginning on.
func chartOf(g api.Grammar, tokens []int) *chart {
	c := &chart{
		Grammar: g,
		tokens:  tokens,
		items:   map[item]struct{}{},
		waits:   map[spot][]item{},
		ends:    map[spot][]int{},
	}
	c.begin(spot{})
	for len(c.open) > 0 {
		last := len(c.open) - 1
		it := c.open[last]
		c.open = c.open[:last]
		c.look(it)
	}
	return c
}

// hasAll tells whether the name 0 has become all tokens.
func (c *chart) hasAll() bool {
	return slices.Contains(c.ends[spot{}], len(c.tokens))
}

// begin puts the rules of a name where it begins, with nothing read.
func (c *chart) begin(s spot) {
	for i, r := range c.Rules {
		if r.Left == s.name {
			c.put(item{rule: i, from: s.at, to: s.at})
		}
	}
}

// put lets an item be looked at once, and not again.
func (c *chart) put(it item) {
	if _, ok := c.items[it]; ok {
		return
	}
	c.items[it] = struct{}{}
	c.open = append(c.open, it)
}

// readOn puts the item with one symbol more read, which stands to below the token to.
func (c *chart) readOn(it item, to int) {
	it.read++
	it.to = to
	c.put(it)
}

// look does what the next symbol of an item asks for.
func (c *chart) look(it item) {
	r := c.Rules[it.rule]
	if it.read == len(r.Right) {
		c.end(spot{r.Left, it.from}, it.to)
		return
	}
	next := r.Right[it.read]
	if !next.Term {
		c.wait(spot{next.N, it.to}, it)
		return
	}
	if it.to < len(c.tokens) && c.tokens[it.to] == next.N {
		c.readOn(it, it.to+1)
	}
}

// wait reads an item on by all ends of its next name that are known so far; end does so by later ones. So each item meets each end, whichever of them comes first: an end of a name that yields nothing often comes ahead of an item.
func (c *chart) wait(s spot, it item) {
	if len(c.waits[s]) == 0 {
		c.begin(s)
	}
	c.waits[s] = append(c.waits[s], it)
	for _, to := range c.ends[s] {
		c.readOn(it, to)
	}
}

// end notes that what a name has become may stand to below the token to.
func (c *chart) end(s spot, to int) {
	if slices.Contains(c.ends[s], to) {
		return
	}
	c.ends[s] = append(c.ends[s], to)
	for _, it := range c.waits[s] {
		c.readOn(it, to)
	}
}
