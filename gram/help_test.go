package gram_test

import (
	"slices"
	"testing"

	"pollarding/api"
	"pollarding/gram"
)

func term(n int) api.Sym { return api.Sym{Term: true, N: n} }

func name(n int) api.Sym { return api.Sym{N: n} }

func rule(left int, right ...api.Sym) api.Rule {
	return api.Rule{Left: left, Right: right}
}

// chapter is the grammar of the chapter's example.
func chapter() api.Grammar {
	return api.Grammar{Terms: 1, Names: 1, Rules: []api.Rule{
		rule(0, term(0), name(0)),
		rule(0),
	}}
}

// several has names within names, terms on both sides of them, and empty Rights.
func several() api.Grammar {
	return api.Grammar{Terms: 3, Names: 3, Rules: []api.Rule{
		rule(0, name(1), term(2), name(2)),
		rule(1, term(0), name(1), term(1)),
		rule(1),
		rule(2, name(1), name(1)),
		rule(2, term(2)),
		rule(0, name(2)),
	}}
}

// wide has a rule with many names, so that a list may be long without being deep.
func wide() api.Grammar {
	return api.Grammar{Terms: 2, Names: 2, Rules: []api.Rule{
		rule(0, name(1), name(1), name(1), name(1), name(1), name(1), name(1), name(0)),
		rule(0),
		rule(1, term(1)),
	}}
}

func copied(g api.Grammar) api.Grammar {
	out := g
	out.Rules = nil
	for _, r := range g.Rules {
		out.Rules = append(out.Rules, api.Rule{Left: r.Left, Right: slices.Clone(r.Right)})
	}
	return out
}

func same(a, b api.Grammar) bool {
	return a.Terms == b.Terms && a.Names == b.Names && slices.EqualFunc(a.Rules, b.Rules, func(x, y api.Rule) bool {
		return x.Left == y.Left && slices.Equal(x.Right, y.Right)
	})
}

// wantDerivation asks Yield and Spans of a list that is a derivation.
func wantDerivation(t *testing.T, g api.Grammar, d, yield []int, spans []api.Span) {
	t.Helper()
	y, ok := gram.Yield(g, d)
	if !ok || !slices.Equal(y, yield) {
		t.Errorf("Yield of %v: %v %v, not %v", d, y, ok, yield)
	}
	s, ok := gram.Spans(g, d)
	if !ok || !slices.Equal(s, spans) {
		t.Errorf("Spans of %v: %v %v, not %v", d, s, ok, spans)
	}
}

// wantNone asks Yield and Spans of a list that is no derivation.
func wantNone(t *testing.T, g api.Grammar, d []int) {
	t.Helper()
	if y, ok := gram.Yield(g, d); ok || len(y) != 0 {
		t.Errorf("Yield of %v: %v %v, not none", d, y, ok)
	}
	if s, ok := gram.Spans(g, d); ok || len(s) != 0 {
		t.Errorf("Spans of %v: %v %v, not none", d, s, ok)
	}
}
