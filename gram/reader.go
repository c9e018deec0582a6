package gram

import "pollarding/api"

// giveUp is what a reader panics with: it may be deep within the tree when it finds that the list is no derivation.
const giveUp = "no derivation"

// reader goes through a list of rules' numbers as through the tree that it tells.
type reader struct {
	api.Grammar
	list  []int
	at    int
	yield []int
	spans []api.Span
}

// read reads d whole as a derivation of the name 0. A reader that gave up is answered empty, so that no half-read yield comes out.
func read(g api.Grammar, d []int) (r reader, ok bool) {
	// Lengths are asked first: they bound how deep the reading may go.
	if len(d) > api.MaxSteps {
		return reader{}, false
	}
	defer func() {
		if recover() != nil {
			r, ok = reader{}, false
		}
	}()
	r = reader{Grammar: g, list: d}
	r.name(0)
	r.end()
	return r, true
}

// name reads a derivation of the name n.
func (r *reader) name(n int) {
	rule := r.next(n)
	// The span's place is kept now, ahead of those within it; where it ends is known only behind them.
	place := len(r.spans)
	r.spans = append(r.spans, api.Span{Rule: rule, From: len(r.yield)})
	for _, s := range r.Rules[rule].Right {
		if s.Term {
			r.yield = append(r.yield, s.N)
		} else {
			r.name(s.N)
		}
	}
	r.spans[place].To = len(r.yield)
}

// next takes the list's next number, which must be that of a rule of the name n.
func (r *reader) next(n int) int {
	if r.at >= len(r.list) {
		panic(giveUp)
	}
	rule := r.list[r.at]
	if !isBelow(rule, len(r.Rules)) || r.Rules[rule].Left != n {
		panic(giveUp)
	}
	r.at++
	return rule
}

func (r *reader) end() {
	if r.at < len(r.list) {
		panic(giveUp)
	}
}
