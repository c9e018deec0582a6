package parse

import "pollarding/api"

// place is a state on the stack, and the derivation of the symbol by which it was come to: an empty one of a term, and of the first place.
type place struct {
	state      int
	derivation []int
}

// runner runs a table that has no clash.
type runner struct {
	api.Grammar
	api.Table
	tokens  []int
	read    int // how many tokens were read
	reduced int // how many rules were reduced
	stack   []place
}

// run does what the table says until it is done, or nothing is said. It ends: tokens are read once each, and not more than MaxSteps rules are reduced.
func (r *runner) run() ([]int, int, api.Errno) {
	for {
		c := r.cell()
		switch {
		case c.End:
			return r.last().derivation, done, api.OK
		case c.Shift >= 0:
			r.shift(c.Shift)
		case len(c.Rules) == 0:
			return nil, r.read, api.OK
		case r.reduced == api.MaxSteps:
			return nil, 0, api.ErrSize
		default:
			r.reduce(c.Rules[0])
		}
	}
}

// cell answers what the last state says of the next token, or of the end.
func (r *runner) cell() api.Cell {
	next := r.Terms
	if r.read < len(r.tokens) {
		next = r.tokens[r.read]
	}
	return r.Cells[r.last().state][next]
}

func (r *runner) last() place { return r.stack[len(r.stack)-1] }

// shift reads a token.
func (r *runner) shift(state int) {
	r.stack = append(r.stack, place{state: state})
	r.read++
}

// reduce takes the places of a rule's symbols. Rules are reduced from the innermost to the outermost, and a derivation goes the other way: so the rule comes ahead of what its names have become.
func (r *runner) reduce(number int) {
	rule := r.Rules[number]
	from := len(r.stack) - len(rule.Right)
	derivation := []int{number}
	for _, p := range r.stack[from:] {
		derivation = append(derivation, p.derivation...)
	}
	r.stack = r.stack[:from]
	state := r.Goto[r.last().state][rule.Left]
	r.stack = append(r.stack, place{state, derivation})
	r.reduced++
}
