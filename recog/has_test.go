package recog_test

import (
	"testing"

	"pollarding/api"
)

// E1, worked out by hand: terms, and names by way of others.
func TestPlain(t *testing.T) {
	wantHas(t, []hasCase{
		{"one term", with(2, 1, rule(0, term(1))), 3, "1"},
		{"several terms", with(3, 1, rule(0, term(2), term(0), term(1))), 4, "201"},
		{"several rules", with(2, 1, rule(0, term(0), term(1)), rule(0, term(1)), rule(0, term(1), term(0), term(0))), 4, "01 1 100"},
		{"the same rule twice", with(2, 1, rule(0, term(0), term(1)), rule(0, term(0), term(1))), 3, "01"},
		{"one rule goes on where another one ends", with(2, 1, rule(0, term(0)), rule(0, term(0), term(0), term(1))), 4, "0 001"},
		{"one other name", with(2, 2, rule(0, name(1)), rule(1, term(0), term(1))), 3, "01"},
		{"terms ahead, between and behind", with(2, 2,
			rule(0, term(0), name(1), term(1), name(1), term(0)), rule(1, term(1)),
		), 6, "01110"},
		{"each place has a choice of its own", with(2, 2, rule(0, name(1), name(1)), rule(1, term(0)), rule(1, term(1), term(1))), 5, "00 011 110 1111"},
		{"from one to the next", with(2, 4,
			rule(0, name(1), term(0)), rule(1, name(2), name(2)), rule(2, term(1), name(3)), rule(2, name(3)), rule(3, term(0)),
		), 6, "000 0100 1000 10100"},
		{"a term is no name: the same numbers in both", with(3, 3,
			rule(0, term(1), name(2)), rule(1, term(0)), rule(2, term(2)),
		), 3, "12"},
		{"a term that no rule has", with(3, 1, rule(0, term(0), term(2))), 3, "02"},
		{"the name 0 is what all begins with", with(2, 3, rule(2, term(0)), rule(1, term(1)), rule(0, name(1), name(2))), 3, "10"},
	})
}

// E1: names below themselves, at the left, at the right and between.
func TestBelowThemselves(t *testing.T) {
	wantHas(t, []hasCase{
		{"at the left", with(2, 1, rule(0, name(0), term(0)), rule(0, term(1))), 5, "1 10 100 1000 10000"},
		{"at the right", with(2, 1, rule(0, term(0), name(0)), rule(0, term(1))), 5, "1 01 001 0001 00001"},
		{"between", with(2, 1, rule(0, term(0), name(0), term(0)), rule(0, term(1))), 6, "1 010 00100"},
		{"at the left, by way of another", with(2, 2, rule(0, name(1), term(0)), rule(1, name(0), term(1)), rule(1, term(1))), 6, "10 1010 101010"},
		{"at the right, by way of another", with(2, 2, rule(0, term(0), name(1)), rule(1, term(1), name(0)), rule(1)), 5, "0 010 01010"},
		{"between, by way of another", with(2, 2, rule(0, term(0), name(1), term(1)), rule(1, name(0)), rule(1)), 6, "01 0011 000111"},
		{"at both ends", with(2, 1, rule(0, name(0), term(0), name(0)), rule(0, term(1))), 6, "1 101 10101"},
		{"twice, and nothing else", with(2, 1, rule(0, name(0), name(0)), rule(0, term(0), term(1))), 6, "01 0101 010101"},
		{"at the left behind what may be nothing", with(3, 2,
			rule(0, name(1), name(0), term(0)), rule(0, term(2)), rule(1, term(1)), rule(1),
		), 5, "2 20 200 2000 20000 120 1200 12000 11200"},
		{"at the right ahead of what may be nothing", with(3, 2,
			rule(0, term(0), name(0), name(1)), rule(0, term(2)), rule(1, term(1)), rule(1),
		), 5, "2 02 002 0002 00002 021 0021 00021 00211"},
	})
}

// E1: names that yield nothing, at the beginning, between and at the end of a Right, and several in a row.
func TestYieldNothing(t *testing.T) {
	wantHas(t, []hasCase{
		{"at the beginning", with(1, 2, rule(0, name(1), term(0)), rule(1)), 3, "0"},
		{"between", with(2, 2, rule(0, term(0), name(1), term(1)), rule(1)), 3, "01"},
		{"at the end", with(1, 2, rule(0, term(0), name(1)), rule(1)), 3, "0"},
		{"at the beginning, or something", with(2, 2, rule(0, name(1), term(0)), rule(1), rule(1, term(1))), 3, "0 10"},
		{"between, or something", with(2, 2, rule(0, term(0), name(1), term(0)), rule(1), rule(1, term(1))), 4, "00 010"},
		{"at the end, or something", with(2, 2, rule(0, term(0), name(1)), rule(1), rule(1, term(1))), 3, "0 01"},
		{"the same name several times in a row", with(2, 2,
			rule(0, name(1), name(1), name(1)), rule(1), rule(1, term(1)),
		), 4, "- 1 11 111"},
		{"several names in a row", with(3, 4,
			rule(0, name(1), name(2), name(3)), rule(1), rule(1, term(0)), rule(2), rule(2, term(1)), rule(3), rule(3, term(2)),
		), 4, "- 0 1 2 01 02 12 012"},
		{"several in a row at each place", with(2, 2,
			rule(0, name(1), name(1), term(0), name(1), name(1), term(0), name(1), name(1)), rule(1),
		), 4, "00"},
		{"by way of others", with(2, 4,
			rule(0, name(1), term(0), name(1)), rule(1, name(2), name(3)), rule(2, name(3), name(3)), rule(3), rule(1, term(1)),
		), 4, "0 10 01 101"},
		{"one that is asked for again where it is known already", with(2, 3,
			rule(0, name(1), name(2)), rule(1), rule(2, name(1), term(0), name(1)), rule(2, name(1), name(1)),
		), 3, "- 0"},
		{"one that is itself twice, or nothing", with(1, 2, rule(0, name(1), term(0)), rule(1, name(1), name(1)), rule(1)), 3, "0"},
		{"a name that yields nothing alone, and one that never does", with(2, 3,
			rule(0, name(1), name(2), name(1)), rule(1), rule(2, term(1)),
		), 3, "1"},
	})
}

// E1: several derivations of the same tokens.
func TestSeveralDerivations(t *testing.T) {
	wantHas(t, []hasCase{
		{"by two rules", with(1, 3, rule(0, name(1)), rule(0, name(2)), rule(1, term(0)), rule(2, term(0))), 3, "0"},
		{"by two names, of which one has more", with(2, 3,
			rule(0, name(1), term(1)), rule(0, name(2), term(1), term(0)), rule(1, term(0)), rule(2, term(0)),
		), 4, "01 010"},
		{"each split in two", with(1, 1, rule(0, name(0), name(0)), rule(0, term(0))), 6, "0 00 000 0000 00000 000000"},
		{"each split in two or three", with(1, 1,
			rule(0, name(0), name(0)), rule(0, name(0), name(0), name(0)), rule(0, term(0), term(0)),
		), 8, "00 0000 000000 00000000"},
		{"each split in three", with(1, 1, rule(0, name(0), name(0), name(0)), rule(0, term(0))), 8, "0 000 00000 0000000"},
		{"what one name leaves another one takes", with(1, 3,
			rule(0, name(1), name(2)), rule(1, term(0), name(1)), rule(1), rule(2, term(0), term(0), name(2)), rule(2, term(0), term(0)),
		), 5, "00 000 0000 00000"},
		{"the first name must leave something over", with(1, 2, rule(0, name(1), term(0), term(0)), rule(1, term(0), name(1)), rule(1, term(0))), 5, "000 0000 00000"},
	})
}

// E1: names that become themselves by way of others.
func TestCycles(t *testing.T) {
	wantHas(t, []hasCase{
		{"itself, or a term", with(2, 1, rule(0, name(0)), rule(0, term(1))), 3, "1"},
		{"itself, or nothing", with(1, 1, rule(0, name(0)), rule(0)), 3, "-"},
		{"itself twice, or nothing", with(1, 1, rule(0, name(0), name(0)), rule(0)), 3, "-"},
		{"itself twice, or nothing, or a term", with(2, 1, rule(0, name(0), name(0)), rule(0), rule(0, term(1))), 4, "- 1 11 111 1111"},
		{"two by way of one another", with(2, 2, rule(0, name(1)), rule(1, name(0)), rule(1, term(0)), rule(0, term(1))), 3, "0 1"},
		{"three, and each ends too", with(3, 3,
			rule(0, name(1)), rule(1, name(2)), rule(2, name(0)), rule(0, term(0)), rule(1, term(1)), rule(2, term(2)),
		), 3, "0 1 2"},
		{"behind and ahead of what yields nothing", with(2, 3,
			rule(0, name(1)), rule(1, name(2), name(0), name(2)), rule(1, term(0)), rule(2),
		), 3, "0"},
		{"with a term at one of its steps", with(2, 3,
			rule(0, name(1)), rule(1, name(2)), rule(2, name(0)), rule(2, name(0), term(1)), rule(1, term(0)),
		), 4, "0 01 011 0111"},
		{"two circles that share a name", with(2, 3,
			rule(0, name(1)), rule(1, name(0)), rule(0, name(2)), rule(2, name(0)), rule(1, term(0), name(2)), rule(2, term(1)),
		), 4, "1 01 001 0001"},
		{"a circle below a name", with(2, 3, rule(0, term(0), name(1), term(0)), rule(1, name(2)), rule(2, name(1)), rule(2, term(1))), 4, "010"},
	})
}

// E1: no tokens at all, of grammars that have them and of grammars that have not.
func TestNoTokens(t *testing.T) {
	wantHas(t, []hasCase{
		{"at once", with(2, 1, rule(0)), 3, "-"},
		{"or something", with(1, 1, rule(0, term(0)), rule(0)), 2, "- 0"},
		{"something alone", with(1, 1, rule(0, term(0))), 0, ""},
		{"by way of others", with(1, 3, rule(0, name(1), name(2)), rule(1, name(2), name(2)), rule(2)), 2, "-"},
		{"one name that yields something, among them", with(1, 3, rule(0, name(1), name(2), name(1)), rule(1), rule(2, term(0))), 2, "0"},
		{"a term among them", with(1, 2, rule(0, name(1), term(0), name(1)), rule(1)), 2, "0"},
		{"another name alone", with(1, 2, rule(0, term(0)), rule(1)), 2, "0"},
		{"itself, and nothing else", with(1, 1, rule(0, name(0))), 2, ""},
	})
}

// E1: names that have no derivation, and names that nothing comes to.
func TestOfNoUse(t *testing.T) {
	wantHas(t, []hasCase{
		{"the name 0 has no rules", with(2, 2, rule(1, term(0))), 3, ""},
		{"the name 0 is never ended", with(2, 1, rule(0, term(0), name(0)), rule(0, name(0), term(1))), 4, ""},
		{"two are never ended", with(1, 2, rule(0, term(0), name(1)), rule(1, term(0), name(0))), 4, ""},
		{"a name without rules, at the beginning", with(1, 2, rule(0, name(1), term(0)), rule(0, term(0), term(0))), 3, "00"},
		{"between", with(1, 2, rule(0, term(0), name(1), term(0)), rule(0, term(0))), 3, "0"},
		{"at the end", with(1, 2, rule(0, term(0), name(1)), rule(0, term(0), term(0))), 3, "00"},
		{"alone", with(1, 2, rule(0, name(1)), rule(0, term(0))), 3, "0"},
		{"a name that is never ended, at the end", with(1, 2, rule(0, term(0), name(1)), rule(0, term(0), term(0)), rule(1, name(1))), 3, "00"},
		{"beside names that yield nothing", with(1, 3, rule(0, name(1), name(2)), rule(0, term(0)), rule(1)), 3, "0"},
		{"names that nothing comes to", with(3, 3, rule(0, term(0)), rule(1, term(1)), rule(2, name(0), name(1))), 3, "0"},
		{"that would come by way of one that is never ended", with(2, 3,
			rule(0, term(0)), rule(0, name(1), name(2)), rule(1, name(1), term(1)), rule(2, term(1)),
		), 3, "0"},
		{"names that come to the name 0, and nothing to them", with(2, 2, rule(0, term(0)), rule(1, name(0), term(1)), rule(1)), 3, "0"},
	})
}

// E1: without terms there are no tokens to be had, but none at all may be.
func TestNoTerms(t *testing.T) {
	wantHas(t, []hasCase{
		{"nothing", with(0, 1, rule(0)), 0, "-"},
		{"itself", with(0, 1, rule(0, name(0))), 0, ""},
		{"itself, or nothing", with(0, 1, rule(0, name(0), name(0)), rule(0)), 0, "-"},
		{"others", with(0, 3, rule(0, name(1), name(2)), rule(1), rule(2, name(1), name(1))), 0, "-"},
		{"others, one of which has no rules", with(0, 3, rule(0, name(1), name(2)), rule(1)), 0, ""},
	})
}

// E1: without rules nothing is had.
func TestNoRules(t *testing.T) {
	for terms := range api.MaxTerms + 1 {
		for names := 1; names <= api.MaxNames; names++ {
			eachTokens(terms, 2, func(tokens []int) {
				if asked(t, with(terms, names), tokens) {
					t.Errorf("%d terms, %d names, no rules: %v", terms, names, tokens)
				}
			})
		}
	}
}
