package reach_test

import (
	"slices"
	"testing"

	"pollarding/api"
	"pollarding/reach"
)

type toldCase struct {
	what string
	g    api.Grammar
	want string
}

// wantTold asks of each grammar, and of the same with its rules in reverse: their order is of no account.
func wantTold(t *testing.T, cases []toldCase) {
	t.Helper()
	for _, c := range cases {
		if got := told(t, c.g); got != c.want {
			t.Errorf("%s: %s, not %s", c.what, got, c.want)
		}
		back := copied(c.g)
		slices.Reverse(back.Rules)
		if got := told(t, back); got != c.want {
			t.Errorf("%s, rules in reverse: %s, not %s", c.what, got, c.want)
		}
	}
}

// C1, of Makes first of all, worked out by hand.
func TestMakes(t *testing.T) {
	wantTold(t, []toldCase{
		{"a term", with(1, 1, rule(0, term(0))), "0/0/"},
		{"nothing", with(1, 1, rule(0)), "0/0/"},
		{"only by way of others", with(1, 4,
			rule(0, name(1), name(2)), rule(1, name(3), term(0)), rule(2, name(1)), rule(3, term(0)),
		), "0123/0123/"},
		{"by way of itself and another rule", with(1, 1, rule(0, term(0), name(0)), rule(0)), "0/0/"},
		{"itself, and nothing else", with(1, 1, rule(0, name(0))), "//0"},
		{"itself behind a term", with(1, 1, rule(0, term(0), name(0))), "//"},
		{"two by way of one another alone", with(1, 3,
			rule(0, term(0)), rule(1, term(0), name(2)), rule(2, name(1), term(0)),
		), "0/0/"},
		{"and one of them ends", with(1, 3,
			rule(0, term(0)), rule(1, term(0), name(2)), rule(2, name(1), term(0)), rule(2),
		), "012/0/"},
		{"all names of the rule, not only its first one", with(1, 3, rule(0, name(1), name(2)), rule(1, term(0))), "1//"},
		{"nor only its last one", with(1, 3, rule(0, name(2), name(1)), rule(1, term(0))), "1//"},
		{"nor only those that no term stands ahead of", with(1, 2, rule(0, term(0), name(1), term(0))), "//"},
		{"one rule of several is enough", with(1, 3, rule(0, name(2)), rule(0, name(1)), rule(0, name(2), term(0)), rule(1)), "01/01/"},
		{"names whose rules have names that do not make", with(1, 4,
			rule(0, name(1)), rule(0, name(2)), rule(1, name(3), term(0)), rule(2, term(0), name(1)), rule(2, term(0)),
		), "02/02/"},
		{"a term is no name: the same numbers in both", with(4, 4,
			rule(0, term(3), name(1)), rule(1, term(2)), rule(2, term(1), name(3)),
		), "01/01/"},
	})
}

// C1, of Comes first of all, worked out by hand.
func TestComes(t *testing.T) {
	wantTold(t, []toldCase{
		{"from one to the next", with(1, 4, rule(0, name(1)), rule(1, term(0), name(2)), rule(2, name(3), term(0)), rule(3)), "0123/0123/"},
		{"at each place of a Right", with(1, 4,
			rule(0, name(1), term(0), name(2), name(3)), rule(1), rule(2, term(0)), rule(3),
		), "0123/0123/"},
		{"names that make, and that nothing comes to", with(1, 4,
			rule(0, term(0)), rule(1, term(0)), rule(2, name(1), name(3)), rule(3),
		), "0123/0/"},
		{"names that come to one another, and the name 0 not to them", with(1, 3,
			rule(0, term(0)), rule(1, term(0), name(2)), rule(2, term(0), name(1)), rule(2),
		), "012/0/"},
		{"names that come to the name 0, and it not to them", with(1, 3,
			rule(0), rule(1, term(0), name(0)), rule(2, term(0), name(1), name(0)),
		), "012/0/"},
		{"only in a rule not all of whose names make, ahead", with(1, 3,
			rule(0, name(1), name(2)), rule(0, term(0)), rule(1, term(0)),
		), "01/0/"},
		{"behind", with(1, 3, rule(0, name(2), term(0), name(1)), rule(0), rule(1, term(0))), "01/0/"},
		{"deeper down", with(1, 5,
			rule(0, name(1)), rule(1, name(2), name(4)), rule(1, name(3)), rule(2), rule(3, term(0)), rule(4, term(0), name(4)),
		), "0123/013/"},
		{"in such a rule, and in another one", with(1, 3,
			rule(0, name(1), name(2)), rule(0, term(0), name(1)), rule(1, term(0)),
		), "01/01/"},
		{"its Left makes, yet by another rule", with(1, 4,
			rule(0, name(1)), rule(1, name(2), name(3)), rule(1), rule(2),
		), "012/01/"},
		{"names that do not make do not come", with(1, 2, rule(0, name(1)), rule(0), rule(1, name(1), term(0))), "0/0/1"},
		{"the name 0 does not make: nothing comes", with(1, 3,
			rule(0, name(1), name(0)), rule(1, name(2)), rule(2, term(0)),
		), "12//"},
		{"nor by a name that does", with(1, 2, rule(0, name(0), name(1)), rule(1, term(0), name(1)), rule(1)), "1//0"},
		{"the name 0 has no rules", with(1, 2, rule(1, term(0)), rule(1, name(1))), "1//1"},
		{"the name 0 comes without a rule that has it", with(1, 2, rule(0, name(1)), rule(1)), "01/01/"},
		{"through the name 0 itself", with(2, 2, rule(0, term(0), name(0), name(1)), rule(0), rule(1, term(1))), "01/01/"},
	})
}

// C1, of Left first of all, worked out by hand.
func TestLeft(t *testing.T) {
	wantTold(t, []toldCase{
		{"at once", with(1, 1, rule(0, name(0), term(0)), rule(0)), "0/0/0"},
		{"as its last symbol it does not", with(1, 1, rule(0, term(0), name(0)), rule(0)), "0/0/"},
		{"through others", with(1, 3,
			rule(0, name(1), term(0)), rule(1, name(2), term(0)), rule(2, name(0), term(0)), rule(2, term(0)),
		), "012/012/012"},
		{"some through one another, one only up to them", with(1, 4,
			rule(0, name(1)), rule(1, name(2)), rule(2, name(1)), rule(2, name(3)), rule(3, term(0)),
		), "0123/0123/12"},
		{"behind a name that is Null", with(1, 2,
			rule(0, name(1), name(0), term(0)), rule(0, term(0)), rule(1),
		), "01/01/0"},
		{"behind a name that is Null by way of others", with(1, 4,
			rule(0, name(1), name(0), term(0)), rule(0, term(0)), rule(1, name(2), name(3)), rule(2), rule(3, name(2)),
		), "0123/0123/0"},
		{"behind several that are Null", with(1, 3,
			rule(0, name(1), name(2), name(1), name(0)), rule(0, term(0)), rule(1), rule(2), rule(2, term(0)),
		), "012/012/0"},
		{"behind a name that is not Null it does not", with(1, 2,
			rule(0, name(1), name(0), term(0)), rule(0, term(0)), rule(1, term(0)),
		), "01/01/"},
		{"nor behind one that is, and one that is not", with(1, 3,
			rule(0, name(1), name(2), name(0)), rule(0, term(0)), rule(1), rule(2, term(0)),
		), "012/012/"},
		{"nor behind a Null name and a term", with(1, 2, rule(0, name(1), term(0), name(0)), rule(0), rule(1)), "01/01/"},
		{"nor behind a term whose number is a Null name's", with(2, 2, rule(0, term(1), name(0)), rule(0), rule(1)), "01/0/"},
		{"through others, and behind names that are Null", with(2, 4,
			rule(0, name(3), name(1)), rule(1, name(3), name(3), name(2), term(0)), rule(2, name(0), term(1)), rule(2, term(0)), rule(3),
		), "0123/0123/012"},
		{"one behind the other, that begins with itself and is Null", with(1, 2,
			rule(0, name(0), name(1)), rule(0), rule(1, name(0), term(0)),
		), "01/01/01"},
		{"and that is not Null", with(1, 2,
			rule(0, name(0), name(1)), rule(0, term(0)), rule(1, name(0), term(0)),
		), "01/01/0"},
		{"behind another one that begins with itself", with(1, 3,
			rule(0, name(1), name(2)), rule(1, name(1), term(0)), rule(1, term(0)), rule(2, name(0), term(0)),
		), "1//1"},
		{"by one rule of several", with(1, 2, rule(0, term(0)), rule(0, name(1)), rule(1, term(0)), rule(1, name(0), term(0))), "01/01/01"},
		{"a name that does not make", with(1, 2, rule(0, term(0)), rule(1, name(1), term(0))), "0/0/1"},
		{"through a name that does not make", with(1, 3,
			rule(0, term(0)), rule(1, name(2), term(0)), rule(1, term(0)), rule(2, name(1), name(2)),
		), "01/0/12"},
		{"names that nothing comes to", with(1, 3, rule(0), rule(1, name(2)), rule(2, name(1)), rule(2)), "012/0/12"},
		{"two circles, one of which goes on to the other", with(1, 5,
			rule(0, name(1)), rule(1, name(0)), rule(1, name(2)), rule(2, name(3)), rule(3, name(4)), rule(4, name(3)), rule(4, term(0)),
		), "01234/01234/0134"},
	})
}

// C1: names with no rules make not, come not, and begin with nothing; and no rule that has them makes.
func TestNamesWithNoRules(t *testing.T) {
	wantTold(t, []toldCase{
		{"one name", with(1, 1), "//"},
		{"ahead of the name", with(1, 2, rule(0, name(1), name(0)), rule(0)), "0/0/"},
		{"behind the name", with(1, 2, rule(0, name(0), name(1)), rule(0)), "0/0/0"},
		{"all but the last one", with(1, 3, rule(2, name(0)), rule(2, name(1)), rule(2, name(2)), rule(2)), "2//2"},
	})
}

// C1: without terms there are derivations too, that yield nothing.
func TestNoTerms(t *testing.T) {
	wantTold(t, []toldCase{
		{"no rules", with(0, 1), "//"},
		{"nothing", with(0, 1, rule(0)), "0/0/"},
		{"itself", with(0, 1, rule(0, name(0))), "//0"},
		{"itself, or nothing", with(0, 1, rule(0, name(0)), rule(0)), "0/0/0"},
		{"others", with(0, 4, rule(0, name(1), name(2)), rule(1), rule(2, name(1)), rule(3, name(0), name(3)), rule(3)), "0123/012/3"},
		{"others, one of which has no rules", with(0, 3, rule(0, name(1), name(2), name(0)), rule(1)), "1//"},
	})
}

// C1: without rules nothing holds.
func TestNoRules(t *testing.T) {
	for terms := range api.MaxTerms + 1 {
		for names := 1; names <= api.MaxNames; names++ {
			if got := told(t, with(terms, names)); got != "//" {
				t.Errorf("%d terms, %d names: %s", terms, names, got)
			}
		}
	}
}

// C1, on many small grammars, against reasons that are looked for one by one.
func TestReasons(t *testing.T) {
	seen := map[[3]bool]int{}
	eachSmall(func(g api.Grammar) {
		m, c, l := asked(t, reach.Makes, g), asked(t, reach.Comes, g), asked(t, reach.Left, g)
		for n := range g.Names {
			got := [3]bool{m[n], c[n], l[n]}
			r := reasons{g}
			want := [3]bool{r.makes(n, nil), r.comes(n, nil), r.begins(n, n, nil)}
			if got != want {
				t.Fatalf("%v: the name %d makes, comes, begins with itself: %v, not %v", g, n, got, want)
			}
			seen[got]++
		}
	})
	for _, makes := range []bool{false, true} {
		for _, comes := range []bool{false, makes} {
			for _, left := range []bool{false, true} {
				if n := seen[[3]bool{makes, comes, left}]; n < 100 {
					t.Error("too few names were looked at:", makes, comes, left, n)
				}
			}
		}
	}
}

// reasons looks for why something holds, by C1's words. What holds of the least truths has a reason that does not come back to itself, so names that were gone through already are left out.
type reasons struct{ api.Grammar }

func (r reasons) makes(n int, through []int) bool {
	if slices.Contains(through, n) {
		return false
	}
	through = append(slices.Clone(through), n)
	return slices.ContainsFunc(r.Rules, func(rule api.Rule) bool {
		return rule.Left == n && r.allMake(rule.Right, through)
	})
}

func (r reasons) allMake(syms []api.Sym, through []int) bool {
	return !slices.ContainsFunc(syms, func(s api.Sym) bool {
		return !s.Term && !r.makes(s.N, through)
	})
}

func (r reasons) comes(n int, through []int) bool {
	if slices.Contains(through, n) {
		return false
	}
	if n == 0 && r.makes(0, nil) {
		return true
	}
	through = append(slices.Clone(through), n)
	return slices.ContainsFunc(r.Rules, func(rule api.Rule) bool {
		return slices.Contains(rule.Right, name(n)) && r.allMake(rule.Right, nil) && r.comes(rule.Left, through)
	})
}

// null: a name is Null, if it makes by rules without terms alone.
func (r reasons) null(s api.Sym) bool {
	bare := slices.DeleteFunc(slices.Clone(r.Rules), func(rule api.Rule) bool {
		return slices.ContainsFunc(rule.Right, func(s api.Sym) bool { return s.Term })
	})
	return !s.Term && reasons{with(r.Terms, r.Names, bare...)}.makes(s.N, nil)
}

func (r reasons) begins(n, with int, through []int) bool {
	if slices.Contains(through, n) {
		return false
	}
	through = append(slices.Clone(through), n)
	for _, rule := range r.Rules {
		if rule.Left != n {
			continue
		}
		for _, s := range rule.Right {
			if s == name(with) || !s.Term && r.begins(s.N, with, through) {
				return true
			}
			if !r.null(s) {
				break
			}
		}
	}
	return false
}
