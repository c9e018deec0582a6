package short_test

import (
	"testing"

	"pollarding/api"
)

// most is what D1 says that a yield of more tokens counts as.
const most = 1000000000

// level is what a name of a tower becomes: so many times the next name, and so many terms.
type level struct{ names, terms int }

// tower has a name of each level, and one rule of each name.
func tower(levels ...level) []api.Rule {
	var out []api.Rule
	for n, l := range levels {
		out = append(out, rule(n, append(manySyms(l.names, name(n+1)), tokens(l.terms)...)...))
	}
	return out
}

// heights are the yields of a tower's names, worked out without any bound but that of an int64.
func heights(levels ...level) []int64 {
	out := make([]int64, len(levels))
	below := int64(0)
	for n := len(levels) - 1; n >= 0; n-- {
		below = int64(levels[n].names)*below + int64(levels[n].terms)
		out[n] = below
	}
	return out
}

// third is a tower of as many names as may be, but for one: 333333333 tokens.
func third() []level {
	return []level{{5, 3}, {6, 0}, {5, 1}, {6, 2}, {7, 0}, {6, 2}, {5, 3}, {5, 3}, {8, 0}, {6, 2}, {0, 7}}
}

// eights is a tower of that many names, each of them eight times the next one.
func eights(n int) []level {
	var out []level
	for range n - 1 {
		out = append(out, level{8, 0})
	}
	return append(out, level{0, 8})
}

// D1: yields of just the most that counts, of fewer, and of more.
func TestMost(t *testing.T) {
	for _, c := range []struct {
		top    level
		yields int64
		want   int
	}{
		{level{2, 6}, 666666672, 666666672},
		{level{3, 0}, most - 1, most - 1},
		{level{3, 1}, most, most},
		{level{3, 2}, most + 1, most},
		{level{3, 5}, most + 4, most},
		{level{4, 0}, 1333333332, most},
		{level{7, 1}, 2333333332, most}, // beyond an int32
		{level{8, 0}, 2666666664, most},
	} {
		levels := append([]level{c.top}, third()...)
		if got := heights(levels...)[0]; got != c.yields {
			t.Fatalf("%v: the tower yields %d", c.top, got)
		}
		g := with(1, len(levels), tower(levels...)...)
		wantLevels(t, g, levels, c.want)
	}
}

// wantLevels holds the numbers against a tower whose name 0 alone may be beyond the most that counts.
func wantLevels(t *testing.T, g api.Grammar, levels []level, top int) {
	t.Helper()
	want := []int{top}
	for _, h := range heights(levels...)[1:] {
		want = append(want, int(h))
	}
	wantTold(t, []toldCase{{"a tower", g, want}})
}

// D1: what counts as most is added to what counts as most, and to other yields.
func TestMostAdded(t *testing.T) {
	tall := eights(10) // 1073741824 tokens
	if h := heights(tall...); h[0] <= most || h[1] >= most {
		t.Fatal(h)
	}
	low := []int{134217728, 16777216, 2097152, 262144, 32768, 4096, 512, 64, 8}
	for _, c := range []struct {
		what string
		add  []api.Rule
		want []int // of the names 10 and 11
	}{
		{"itself alone", []api.Rule{rule(10, name(0))}, []int{most, -1}},
		{"and a term", []api.Rule{rule(10, name(0), term(0))}, []int{most, -1}},
		{"and a term ahead", []api.Rule{rule(10, term(0), name(0))}, []int{most, -1}},
		{"and nothing", []api.Rule{rule(10, name(11), name(0), name(11)), rule(11)}, []int{most, 0}},
		{"two of them", []api.Rule{rule(10, name(0), name(0))}, []int{most, -1}},
		{"three of them", []api.Rule{rule(10, name(0), name(0), name(0))}, []int{most, -1}},
		{"eight of them", []api.Rule{rule(10, manySyms(8, name(0))...)}, []int{most, -1}},
		{"eight of eight of them", []api.Rule{rule(10, manySyms(8, name(11))...), rule(11, manySyms(8, name(0))...)}, []int{most, most}},
		{"with others behind it", []api.Rule{rule(10, name(0), name(1), name(2), name(9))}, []int{most, -1}},
		{"with others ahead of it", []api.Rule{rule(10, name(9), name(2), name(1), name(0))}, []int{most, -1}},
		{"a name that has none behind it", []api.Rule{rule(10, name(0), name(11))}, []int{-1, -1}},
		{"a name that has none behind two of them", []api.Rule{rule(10, name(0), name(0), name(11))}, []int{-1, -1}},
		{"a name that has none ahead of it", []api.Rule{rule(10, name(11), name(0))}, []int{-1, -1}},
		{"or fewer", []api.Rule{rule(10, name(0), name(0)), rule(10, name(1), term(0))}, []int{134217729, -1}},
		{"or as many, by more than one way", []api.Rule{rule(10, name(0), name(0)), rule(10, name(0)), rule(10, manySyms(8, name(1))...)}, []int{most, -1}},
		{"or nothing", []api.Rule{rule(10, name(0), name(0)), rule(10), rule(11, name(10), name(0))}, []int{0, most}},
		{"itself again", []api.Rule{rule(10, name(10), name(0)), rule(10, name(0), name(10)), rule(10, name(0))}, []int{most, -1}},
	} {
		g := with(1, api.MaxNames, append(tower(tall...), c.add...)...)
		wantTold(t, []toldCase{{c.what, g, append(append([]int{most}, low...), c.want...)}})
	}
}

// D1: the shorter of two yields of a name is told at the bound too.
func TestMostOrFewer(t *testing.T) {
	for _, c := range []struct {
		what string
		tops []level
		want int
	}{
		{"most, or one fewer", []level{{3, 1}, {3, 0}}, most - 1},
		{"more, or one fewer", []level{{8, 0}, {3, 0}, {3, 2}}, most - 1},
		{"more, or most", []level{{3, 2}, {3, 1}, {4, 4}}, most},
		{"more, each of them", []level{{3, 2}, {3, 3}, {8, 0}}, most},
		{"more, or few", []level{{8, 0}, {0, 2}, {3, 0}}, 2},
	} {
		levels := append([]level{{}}, third()...)
		rules := tower(levels...)[1:]
		for _, top := range c.tops {
			rules = append(rules, tower(top)...)
		}
		wantLevels(t, with(1, len(levels), rules...), levels, c.want)
	}
}

// D1: derivations longer than MaxSteps count too: just as long, longer by one rule, and far longer.
func TestDerivationsHoweverLong(t *testing.T) {
	for _, c := range []struct {
		what   string
		levels []level
		rules  int64
	}{
		{"just as long", []level{{7, 0}, {8, 0}, {6, 0}, {0, 1}}, api.MaxSteps},
		{"longer by one rule", []level{{8, 0}, {7, 0}, {6, 0}, {0, 1}}, api.MaxSteps + 1},
		{"longer by one rule, and nothing", []level{{8, 0}, {7, 0}, {6, 0}, {0, 0}}, api.MaxSteps + 1},
		{"far longer", eights(6), 37449},
		{"as long as may be", eights(api.MaxNames), 9817068105},
		{"as long as may be, and nothing", append(eights(api.MaxNames)[:api.MaxNames-1], level{}), 9817068105},
	} {
		if got := rulesOf(c.levels); got != c.rules {
			t.Fatalf("%s: a derivation has %d rules", c.what, got)
		}
		var want []int
		for _, h := range heights(c.levels...) {
			want = append(want, int(min(h, most)))
		}
		wantTold(t, []toldCase{{c.what, with(1, len(c.levels), tower(c.levels...)...), want}})
	}
}

// rulesOf counts the rules of a tower's one derivation.
func rulesOf(levels []level) int64 {
	sum, wide := int64(0), int64(1)
	for _, l := range levels {
		sum += wide
		wide *= int64(l.names)
	}
	return sum
}
