package recog_test

import (
	"slices"
	"strings"
	"testing"

	"pollarding/api"
)

// language is a grammar; which tokens it has, told without a grammar; and some long ones that it has.
type language struct {
	what string
	g    api.Grammar
	is   func(tokens []int) bool
	long [][]int
}

func languages() []language {
	nested := [][]int{read("0100101101"), slices.Repeat([]int{0, 1}, 15), slices.Repeat([]int{0, 0, 1, 0, 1, 1}, 5), slices.Concat(many(15, 0), many(15, 1))}
	ones := [][]int{many(1, 1), many(17, 1), many(api.MaxTokens, 1)}
	return []language{
		{"as many of the one as of the other", with(2, 1, rule(0, term(0), name(0), term(1)), rule(0)), isEven,
			[][]int{slices.Concat(many(6, 0), many(6, 1)), slices.Concat(many(15, 0), many(15, 1))}},
		{"brackets", with(2, 1, rule(0, term(0), name(0), term(1), name(0)), rule(0)), isNested, nested},
		{"brackets, with several derivations", with(2, 1,
			rule(0, name(0), name(0)), rule(0, term(0), name(0), term(1)), rule(0),
		), isNested, nested},
		{"the same from both ends", with(3, 1,
			rule(0, term(0), name(0), term(0)), rule(0, term(1), name(0), term(1)), rule(0, term(2)),
		), isMirrored, [][]int{read("01101210110"), slices.Concat(slices.Repeat([]int{0, 1}, 7), []int{2}, slices.Repeat([]int{1, 0}, 7))}},
		{"ones, at the left", with(2, 1, rule(0, name(0), term(1)), rule(0, term(1))), isOnes, ones},
		{"ones, at the right", with(2, 1, rule(0, term(1), name(0)), rule(0, term(1))), isOnes, ones},
		{"ones, each split", with(2, 1, rule(0, name(0), name(0)), rule(0, term(1))), isOnes, ones},
		{"ones, by cycles, and among names that yield nothing", with(2, 3,
			rule(0, name(2), name(1), name(2)), rule(1, name(0)), rule(1, name(2), name(0), name(0), name(2)), rule(1, term(1)), rule(2), rule(2, name(2), name(2)),
		), isOnes, ones},
		{"sums and products", sums(), isSum,
			[][]int{spelt("x*(x+x)"), spelt("((x+x)*x+(x))*(x+x*x)"), spelt("x" + strings.Repeat("+x*x", 7)), spelt(strings.Repeat("(", 14) + "x" + strings.Repeat(")", 14))}},
	}
}

func isEven(tokens []int) bool {
	half := len(tokens) / 2
	return slices.Equal(tokens, slices.Concat(many(half, 0), many(half, 1)))
}

func isNested(tokens []int) bool {
	deep := 0
	for _, n := range tokens {
		deep += 1 - 2*n
		if deep < 0 {
			return false
		}
	}
	return deep == 0
}

func isMirrored(tokens []int) bool {
	back := slices.Clone(tokens)
	slices.Reverse(back)
	return len(tokens)%2 == 1 && slices.Equal(tokens, back) && slices.Index(tokens, 2) == len(tokens)/2
}

func isOnes(tokens []int) bool {
	return len(tokens) > 0 && !slices.Contains(tokens, 0)
}

// sums has products in sums, at the left, and sums in brackets: its terms are those of spelt.
func sums() api.Grammar {
	return with(5, 3,
		rule(0, name(0), term(0), name(1)), rule(0, name(1)),
		rule(1, name(1), term(1), name(2)), rule(1, name(2)),
		rule(2, term(2), name(0), term(3)), rule(2, term(4)),
	)
}

const signs = "+*()x"

// spelt are the tokens that the signs tell.
func spelt(text string) []int {
	var out []int
	for _, sign := range text {
		out = append(out, strings.IndexRune(signs, sign))
	}
	return out
}

// isSum puts an x in the place of whatever is as much as one, until that alone is left.
func isSum(tokens []int) bool {
	text := ""
	for _, n := range tokens {
		text += signs[n : n+1]
	}
	for was := ""; was != text; {
		was = text
		text = strings.NewReplacer("(x)", "x", "x+x", "x", "x*x", "x").Replace(text)
	}
	return text == "x"
}

// besides are all lists of tokens of which one alone is another, or is lacking, or is one too many.
func besides(terms int, tokens []int) [][]int {
	var out [][]int
	for i := range tokens {
		out = append(out, slices.Delete(slices.Clone(tokens), i, i+1))
		for n := range terms {
			if n != tokens[i] {
				other := slices.Clone(tokens)
				other[i] = n
				out = append(out, other)
			}
		}
	}
	for i := range len(tokens) + 1 {
		for n := range terms {
			out = append(out, slices.Insert(slices.Clone(tokens), i, n))
		}
	}
	return out
}

// E1, on all short lists of tokens.
func TestLanguagesShort(t *testing.T) {
	for _, l := range languages() {
		had := 0
		eachTokens(l.g.Terms, map[int]int{2: 9, 3: 7, 5: 5}[l.g.Terms], func(tokens []int) {
			want := l.is(tokens)
			if got := asked(t, l.g, tokens); got != want {
				t.Errorf("%s: %v: %v, not %v", l.what, tokens, got, want)
			}
			if want {
				had++
			}
		})
		if had < 5 {
			t.Error(l.what, "has too few of them:", had)
		}
	}
}

// E1, on long lists of tokens that the grammar has, and on all that are beside them.
func TestLanguagesLong(t *testing.T) {
	for _, l := range languages() {
		for _, tokens := range l.long {
			if !l.is(tokens) || !asked(t, l.g, tokens) {
				t.Errorf("%s: %v is to be had", l.what, tokens)
			}
			hasNot := 0
			for _, other := range besides(l.g.Terms, tokens) {
				if len(other) > api.MaxTokens {
					continue
				}
				want := l.is(other)
				if got := asked(t, l.g, other); got != want {
					t.Errorf("%s: %v, beside %v: %v, not %v", l.what, other, tokens, got, want)
				}
				if !want {
					hasNot++
				}
			}
			if hasNot == 0 {
				t.Errorf("%s: nothing beside %v is not had", l.what, tokens)
			}
		}
	}
}
