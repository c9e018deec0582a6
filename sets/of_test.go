package sets_test

import (
	"slices"
	"testing"

	"pollarding/api"
)

// B1, on grammars whose sets are worked out by hand.
func TestOf(t *testing.T) {
	for _, c := range []struct {
		what string
		g    api.Grammar
		want string
	}{
		{"a list that grows to the right", with(1, 1, rule(0, term(0), name(0)), rule(0)), "0/1n"},
		{"a list that grows to the left", with(1, 1, rule(0, name(0), term(0)), rule(0)), "0/01n"},
		{"brackets", with(2, 1, rule(0, term(0), name(0), term(1), name(0)), rule(0)), "0/12n"},

		{"sums, whose names begin with themselves", with(5, 3,
			rule(0, name(0), term(0), name(1)), rule(0, name(1)),
			rule(1, name(1), term(1), name(2)), rule(1, name(2)),
			rule(2, term(2), name(0), term(3)), rule(2, term(4)),
		), "24/035 24/0135 24/0135"},
		{"sums, whose rests may become nothing", with(5, 5,
			rule(0, name(2), name(1)),
			rule(1, term(0), name(2), name(1)), rule(1),
			rule(2, name(4), name(3)),
			rule(3, term(1), name(4), name(3)), rule(3),
			rule(4, term(2), name(0), term(3)), rule(4, term(4)),
		), "24/35 0/35n 24/035 1/035n 24/0135"},

		{"names that may become nothing, one behind another, to the end", with(3, 4,
			rule(0, name(1), name(2), name(3)),
			rule(1, term(0)), rule(1), rule(2, term(1)), rule(2), rule(3, term(2)), rule(3),
		), "012/3n 0/123n 1/23n 2/3n"},
		{"the same, with a term behind them", with(4, 4,
			rule(0, name(1), name(2), name(3), term(3)),
			rule(1, term(0)), rule(1), rule(2, term(1)), rule(2), rule(3, term(2)), rule(3),
		), "0123/4 0/123n 1/23n 2/3n"},
		{"the same, with a term between them", with(4, 4,
			rule(0, name(1), term(3), name(2), name(3)),
			rule(1, term(0)), rule(1), rule(2, term(1)), rule(2), rule(3, term(2)), rule(3),
		), "03/4 0/3n 1/24n 2/4n"},
		{"the same, the middle one never nothing", with(3, 4,
			rule(0, name(1), name(2), name(3)),
			rule(1, term(0)), rule(1), rule(2, term(1)), rule(3, term(2)), rule(3),
		), "01/3 0/1n 1/23 2/3n"},

		{"a name that begins with itself behind one that may become nothing", with(3, 2,
			rule(0, name(1), name(0), term(0)), rule(0, term(1)), rule(1), rule(1, term(2)),
		), "12/03 2/12n"},
		{"a name behind itself", with(1, 2, rule(0, name(1), name(1)), rule(1, term(0)), rule(1)), "0/1n 0/01n"},
		{"the name 0 within itself, twice", with(1, 1, rule(0, name(0), name(0)), rule(0, term(0))), "0/01"},
		{"names that become one another", with(1, 3, rule(0, name(1)), rule(1, name(2)), rule(2, name(0)), rule(2, term(0))), "0/1 0/1 0/1"},
		{"and one of them nothing", with(1, 3, rule(0, name(1)), rule(1, name(2)), rule(2, name(0)), rule(2)), "/1n /1n /1n"},
		{"and nothing else: the least sets are empty", with(1, 3, rule(0, name(1)), rule(1, name(2)), rule(2, name(0))), "/1 /1 /1"},
		{"a name that becomes itself alone", with(1, 1, rule(0, name(0))), "/1"},
		{"a name that begins with itself, and has no other rule", with(1, 1, rule(0, name(0), term(0))), "/01"},

		{"a name with no rules, ahead of a term", with(2, 2, rule(0, name(1), term(0)), rule(0, term(1))), "1/2 /0"},
		{"behind a term", with(2, 2, rule(0, term(0), name(1))), "0/2 /2"},
		{"between names", with(2, 4,
			rule(0, name(2), name(1), name(3)), rule(2, term(0)), rule(2), rule(3, term(1)),
		), "0/2 /1 0/n 1/2"},
		{"the name 0 has no rules", with(1, 2, rule(1, term(0))), "/1 0/"},

		{"a name that nothing comes to stands around the name 0", with(2, 2,
			rule(0, term(0)), rule(1, term(0), name(0), term(1)),
		), "0/12 0/"},
		{"a name that nothing comes to ends with others", with(2, 3,
			rule(0, term(0)), rule(1, term(1), name(2)), rule(2),
		), "0/2 1/ /n"},
		{"names that come to one another alone", with(2, 3,
			rule(0, term(0)), rule(1, name(2), term(1)), rule(2, name(1)), rule(2),
		), "0/2 1/1 1/1n"},

		{"one rule has it, another one not", with(2, 2,
			rule(0, name(1), term(0)), rule(0, name(1)), rule(1, term(1), term(0)), rule(1, term(1), name(1)),
		), "1/2 1/02"},
		{"behind the term that comes first nothing counts", with(3, 2,
			rule(0, term(0), term(1), name(1)), rule(1, term(2), name(0)),
		), "0/3 2/3"},
		{"a term is no name: the same numbers in both", with(3, 3,
			rule(0, term(1), name(2)), rule(1), rule(2, name(1), term(0)),
		), "1/3 /0n 0/3"},
	} {
		if got := told(asked(t, c.g)); got != c.want {
			t.Errorf("%s: %s, not %s", c.what, got, c.want)
		}
		back := copied(c.g)
		slices.Reverse(back.Rules)
		if got := told(asked(t, back)); got != c.want {
			t.Errorf("%s, rules in reverse: %s, not %s", c.what, got, c.want)
		}
	}
}

// B1: the end is the number Terms, and stands in Follow alone.
func TestEnd(t *testing.T) {
	for terms := range api.MaxTerms + 1 {
		g := with(terms, 2, rule(0, name(1)), rule(1, name(0), name(1)), rule(1))
		for i := range terms {
			g.Rules = append(g.Rules, rule(0, term(i)))
		}
		s := asked(t, g)
		for n := range 2 {
			if !s.Follow[n][terms] {
				t.Errorf("%d terms: the end follows the name %d", terms, n)
			}
			for i := range terms {
				if !s.First[n][i] || !s.Follow[n][i] {
					t.Errorf("%d terms: the term %d begins and follows the name %d", terms, i, n)
				}
			}
		}
	}
}

// B1: without terms there are the end and nothing else.
func TestNoTerms(t *testing.T) {
	for _, c := range []struct {
		g    api.Grammar
		want string
	}{
		{with(0, 1), "/0"},
		{with(0, 1, rule(0)), "/0n"},
		{with(0, 1, rule(0, name(0))), "/0"},
		{with(0, 3, rule(0, name(1), name(1)), rule(1), rule(2, name(1))), "/0n /0n /n"},
		{with(0, 3, rule(0, name(1), name(2)), rule(1)), "/0 /n /0"},
	} {
		if got := told(asked(t, c.g)); got != c.want {
			t.Errorf("%v: %s, not %s", c.g, got, c.want)
		}
	}
}

// B1: without rules the end follows the name 0, and that is all.
func TestNoRules(t *testing.T) {
	for terms := range api.MaxTerms + 1 {
		for names := 1; names <= api.MaxNames; names++ {
			s := asked(t, with(terms, names))
			for n := range names {
				if s.Null[n] || slices.Contains(s.First[n], true) || slices.Contains(s.Follow[n][:terms], true) || s.Follow[n][terms] != (n == 0) {
					t.Errorf("%d terms, %d names: the name %d: %v", terms, names, n, s)
				}
			}
		}
	}
}

// B1, on many small grammars, against reasons that are looked for one by one.
func TestReasons(t *testing.T) {
	eachSmall(func(g api.Grammar) {
		s, r := asked(t, g), reasons{g}
		for n := range g.Names {
			if s.Null[n] != r.null(n, nil) {
				t.Fatalf("%v: the name %d: Null is %v", g, n, s.Null[n])
			}
			for i := range g.Terms {
				if s.First[n][i] != r.first(n, i, nil) {
					t.Fatalf("%v: the name %d: First of %d is %v", g, n, i, s.First[n][i])
				}
			}
			for i := range g.Terms + 1 {
				if s.Follow[n][i] != r.follow(n, i, nil) {
					t.Fatalf("%v: the name %d: Follow of %d is %v", g, n, i, s.Follow[n][i])
				}
			}
		}
	})
}

// reasons looks for why a set has something, by B1's words. What is in the least sets has a reason that does not come back to itself, so names that were gone through already are left out.
type reasons struct{ api.Grammar }

func (r reasons) null(n int, through []int) bool {
	if slices.Contains(through, n) {
		return false
	}
	through = append(slices.Clone(through), n)
	return slices.ContainsFunc(r.Rules, func(rule api.Rule) bool {
		return rule.Left == n && r.allNull(rule.Right, through)
	})
}

func (r reasons) allNull(syms []api.Sym, through []int) bool {
	return !slices.ContainsFunc(syms, func(s api.Sym) bool {
		return s.Term || !r.null(s.N, through)
	})
}

func (r reasons) first(n, term int, through []int) bool {
	if slices.Contains(through, n) {
		return false
	}
	through = append(slices.Clone(through), n)
	return slices.ContainsFunc(r.Rules, func(rule api.Rule) bool {
		return rule.Left == n && r.begin(rule.Right, term, through)
	})
}

func (r reasons) begin(syms []api.Sym, term int, through []int) bool {
	for i, s := range syms {
		has := s.Term && s.N == term || !s.Term && r.first(s.N, term, through)
		if has && r.allNull(syms[:i], nil) {
			return true
		}
	}
	return false
}

func (r reasons) follow(n, term int, through []int) bool {
	if slices.Contains(through, n) {
		return false
	}
	if n == 0 && term == r.Terms {
		return true
	}
	through = append(slices.Clone(through), n)
	for _, rule := range r.Rules {
		for i, s := range rule.Right {
			behind := rule.Right[i+1:]
			if s.Term || s.N != n {
				continue
			}
			if r.begin(behind, term, nil) || r.allNull(behind, nil) && r.follow(rule.Left, term, through) {
				return true
			}
		}
	}
	return false
}
