// Package gram has grammars and their derivations: which grammars may be, what a derivation yields, and where in the yield each of its rules stands. See doc/01-gram.md.
package gram

import "pollarding/api"

// May tells whether g may be (A1).
func May(g api.Grammar) bool {
	if g.Terms < 0 || g.Terms > api.MaxTerms {
		return false
	}
	if g.Names < 1 || g.Names > api.MaxNames {
		return false
	}
	if len(g.Rules) > api.MaxRules {
		return false
	}
	for _, r := range g.Rules {
		if !mayRule(g, r) {
			return false
		}
	}
	return true
}

// Yield answers what d yields, if it is a derivation of the name 0 (A2).
func Yield(g api.Grammar, d []int) ([]int, bool) {
	r, ok := read(g, d)
	return r.yield, ok
}

// Spans answers, of each rule of d, where in the yield what it has become stands, if d is a derivation of the name 0 (A3).
func Spans(g api.Grammar, d []int) ([]api.Span, bool) {
	r, ok := read(g, d)
	return r.spans, ok
}

func mayRule(g api.Grammar, r api.Rule) bool {
	if !isBelow(r.Left, g.Names) || len(r.Right) > api.MaxRight {
		return false
	}
	for _, s := range r.Right {
		if !maySym(g, s) {
			return false
		}
	}
	return true
}

func maySym(g api.Grammar, s api.Sym) bool {
	if s.Term {
		return isBelow(s.N, g.Terms)
	}
	return isBelow(s.N, g.Names)
}

func isBelow(n, end int) bool {
	return n >= 0 && n < end
}
