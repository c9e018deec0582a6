package parse_test

import (
	"strings"
	"testing"

	"pollarding/api"
)

const signs = "+*()x=;"

// spelt are the tokens that the signs tell.
func spelt(text string) []int {
	var out []int
	for _, sign := range text {
		out = append(out, strings.IndexRune(signs, sign))
	}
	return out
}

// sums has products in sums, at the left, and sums in brackets: its terms are the signs' first five.
func sums() api.Grammar {
	return with(5, 3,
		rule(0, name(0), term(0), name(1)), // 0
		rule(0, name(1)),                   // 1
		rule(1, name(1), term(1), name(2)), // 2
		rule(1, name(2)),                   // 3
		rule(2, term(2), name(0), term(3)), // 4
		rule(2, term(4)),                   // 5
	)
}

// places has x's behind stars, and one of them may be put to another one: what an x is, is known by the states, and not by what may follow a name alone.
func places() api.Grammar {
	return with(6, 3,
		rule(0, name(1), term(5), name(2)), // 0
		rule(0, name(2)),                   // 1
		rule(1, term(1), name(2)),          // 2
		rule(1, term(4)),                   // 3
		rule(2, name(1)),                   // 4
	)
}

// blanks has names that yield nothing: ahead of terms, behind them, and alone.
func blanks() api.Grammar {
	return with(3, 4,
		rule(0, name(1), term(0), name(2), name(3)), // 0
		rule(1),                   // 1
		rule(2, term(1)),          // 2
		rule(2),                   // 3
		rule(3, name(1), name(1)), // 4
		rule(3, term(2), name(3)), // 5
	)
}

// endless has a name without an end: tokens are read by its rules, and never reduced.
func endless() api.Grammar {
	return with(2, 2,
		rule(0, term(0), term(1)), // 0
		rule(0, term(0), name(1)), // 1
		rule(1, term(1), name(1)), // 2
	)
}

type parseCase struct {
	tokens []int
	answer string
}

func wantAll(t *testing.T, what string, g api.Grammar, cases []parseCase) {
	t.Helper()
	for _, c := range cases {
		want(t, what, g, c.tokens, c.answer)
	}
}

// G1 and G2: the chapter's example, and all beside it.
func TestChapter(t *testing.T) {
	wantAll(t, "the chapter's", chapter(), []parseCase{
		{nil, "is 1"}, {[]int{0}, "is 0 1"}, {[]int{0, 0}, "is 0 0 1"}, {many(5, 0), "is 0 0 0 0 0 1"},
	})
	two := chapter()
	two.Terms = 2
	wantAll(t, "with a term that no rule has", two, []parseCase{
		{[]int{0, 0}, "is 0 0 1"}, {[]int{1}, "at 0"}, {[]int{0, 1}, "at 1"}, {[]int{0, 0, 1, 0}, "at 2"}, {[]int{1, 1}, "at 0"},
	})
}

// G1 and G2: rules at the left are within one another from the last to the first, and what a rule's names have become stands behind it.
func TestSums(t *testing.T) {
	for text, answer := range map[string]string{
		"x":         "is 1 3 5",
		"x+x":       "is 0 1 3 5 3 5",
		"x*x":       "is 1 2 3 5 5",
		"x+x+x":     "is 0 0 1 3 5 3 5 3 5",
		"x*x*x":     "is 1 2 2 3 5 5 5",
		"x+x*x":     "is 0 1 3 5 2 3 5 5",
		"x*x+x":     "is 0 1 2 3 5 5 3 5",
		"(x)":       "is 1 3 4 1 3 5",
		"(x+x)*x":   "is 1 2 3 4 0 1 3 5 3 5 5",
		"x*(x+x)":   "is 1 2 3 5 4 0 1 3 5 3 5",
		"((x))":     "is 1 3 4 1 3 4 1 3 5",
		"":          "at 0",
		"+":         "at 0",
		")":         "at 0",
		"x+":        "at 2",
		"x*":        "at 2",
		"x)":        "at 1",
		"xx":        "at 1",
		"x+x)":      "at 3",
		"x*x(":      "at 3",
		"x++x":      "at 2",
		"(":         "at 1",
		"()":        "at 1",
		"(x":        "at 2",
		"(x+x":      "at 4",
		"(x))":      "at 3",
		"(x)x":      "at 3",
		"((x)*x+x":  "at 8",
		"x+(x*)+x":  "at 5",
		"x+x+x+x+*": "at 8",
	} {
		want(t, "sums, "+text, sums(), spelt(text), answer)
	}
}

// G1 and G2, where a rule is reduced by the lookaheads of its state alone.
func TestPlaces(t *testing.T) {
	for text, answer := range map[string]string{
		"x":      "is 1 4 3",
		"*x":     "is 1 4 2 4 3",
		"**x":    "is 1 4 2 4 2 4 3",
		"x=x":    "is 0 3 4 3",
		"*x=x":   "is 0 2 4 3 4 3",
		"x=*x":   "is 0 3 4 2 4 3",
		"*x=**x": "is 0 2 4 3 4 2 4 2 4 3",
		"":       "at 0",
		"=x":     "at 0",
		"*":      "at 1",
		"*=":     "at 1",
		"x=":     "at 2",
		"x==":    "at 2",
		"x=x=x":  "at 3",
		"x*":     "at 1",
		"x=xx":   "at 3",
		"+":      "at 0",
		"x)":     "at 1",
	} {
		want(t, "places, "+text, places(), spelt(text), answer)
	}
}

// G1 and G2: rules without symbols take no state.
func TestBlanks(t *testing.T) {
	wantAll(t, "blanks", blanks(), []parseCase{
		{[]int{0}, "is 0 1 3 4 1 1"},
		{[]int{0, 1}, "is 0 1 2 4 1 1"},
		{[]int{0, 2}, "is 0 1 3 5 4 1 1"},
		{[]int{0, 1, 2}, "is 0 1 2 5 4 1 1"},
		{[]int{0, 2, 2, 2}, "is 0 1 3 5 5 5 4 1 1"},
		{nil, "at 0"},
		{[]int{1}, "at 0"},
		{[]int{2, 0}, "at 0"},
		{[]int{0, 0}, "at 1"},
		{[]int{0, 1, 1}, "at 2"},
		{[]int{0, 2, 1}, "at 2"},
		{[]int{0, 1, 2, 0}, "at 3"},
	})
}

// G2: how many tokens were read is told by what was read, also where nothing can come of it.
func TestEndless(t *testing.T) {
	wantAll(t, "endless", endless(), []parseCase{
		{[]int{0, 1}, "is 0"},
		{nil, "at 0"}, {[]int{1}, "at 0"}, {[]int{0}, "at 1"}, {[]int{0, 0}, "at 1"},
		{[]int{0, 1, 1}, "at 3"}, {[]int{0, 1, 0}, "at 2"}, {[]int{0, 1, 1, 1, 1}, "at 5"}, {[]int{0, 1, 1, 1, 0, 1}, "at 4"},
	})
	wantAll(t, "no rules", with(2, 3), []parseCase{{nil, "at 0"}, {[]int{0}, "at 0"}, {[]int{1, 1}, "at 0"}})
	wantAll(t, "no rules of the name 0", with(2, 2, rule(1, term(0)), rule(1)), []parseCase{{nil, "at 0"}, {[]int{0}, "at 0"}})
	wantAll(t, "a name without rules", with(2, 2, rule(0, term(0), name(1))), []parseCase{{nil, "at 0"}, {[]int{0}, "at 1"}, {[]int{0, 0}, "at 1"}})
	wantAll(t, "no terms", with(0, 2, rule(0, name(1), name(1)), rule(1)), []parseCase{{nil, "is 0 1 1"}})
}

// G1 and F4: a clash is told of all tokens, also of those that do not come to it.
func TestErrClash(t *testing.T) {
	for what, g := range map[string]api.Grammar{
		"two derivations":                       with(2, 1, rule(0, name(0), name(0)), rule(0, term(0)), rule(0, term(1))),
		"a rule twice":                          with(2, 1, rule(0, term(0)), rule(0, term(1)), rule(0, term(0))),
		"itself":                                with(2, 1, rule(0, term(0)), rule(0, name(0))),
		"a Shift, or a rule":                    with(2, 2, rule(0, term(0), name(1), term(0)), rule(1), rule(1, term(0))),
		"two names that yield nothing":          with(2, 3, rule(0, name(1)), rule(0, name(2)), rule(1), rule(2)),
		"the same from both ends":               with(2, 1, rule(0, term(0), name(0), term(0)), rule(0, term(1), name(0), term(1)), rule(0)),
		"where no derivation comes to":          with(2, 2, rule(0, term(0)), rule(0, name(1)), rule(1, name(1))),
		"two derivations of what is never read": with(2, 2, rule(0, term(0)), rule(0, term(1), name(1), name(0)), rule(1, name(1), name(1)), rule(1, term(0))),
		"lookaheads of states that are one": with(2, 3,
			rule(0, term(0), name(1), term(0)), rule(0, term(0), name(2), term(1)),
			rule(0, term(1), name(1), term(1)), rule(0, term(1), name(2), term(0)),
			rule(1, term(0)), rule(2, term(0)),
		),
	} {
		eachTokens(2, 4, func(tokens []int) { wantError(t, what, g, tokens, api.ErrClash) })
		wantError(t, what, g, many(api.MaxTokens, 0), api.ErrClash)
	}
}

// G1: names that nothing comes to have no states, so nothing of theirs clashes.
func TestNoClash(t *testing.T) {
	apart := with(2, 2, rule(1, name(1), name(1)), rule(1), rule(0, term(0), name(0)), rule(0, term(1)), rule(1))
	wantAll(t, "a clash that nothing comes to", apart, []parseCase{
		{[]int{1}, "is 3"}, {[]int{0, 0, 1}, "is 2 2 3"}, {[]int{0}, "at 1"}, {[]int{1, 1}, "at 1"},
	})
}
