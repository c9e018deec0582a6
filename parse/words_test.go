package parse_test

import (
	"slices"
	"testing"

	"pollarding/api"
	"pollarding/parse"
	"pollarding/reach"
	"pollarding/recog"
	"pollarding/table"
)

// machine does by G1's words what a table says: on its stack are states alone, and what was reduced is noted.
type machine struct {
	api.Grammar
	api.Table
	states  []int
	reduced []int
}

// do answers how many tokens were read, and whether it was done; it stops at more than MaxSteps rules.
func (m *machine) do(tokens []int) (read int, done bool) {
	ahead := append(slices.Clone(tokens), m.Terms)
	m.states = []int{0}
	for len(m.reduced) <= api.MaxSteps {
		c := m.Cells[m.states[len(m.states)-1]][ahead[read]]
		switch {
		case c.Shift != -1:
			m.states = append(m.states, c.Shift)
			read++
		case len(c.Rules) == 1:
			r := m.Rules[c.Rules[0]]
			m.states = m.states[:len(m.states)-len(r.Right)]
			m.states = append(m.states, m.Goto[m.states[len(m.states)-1]][r.Left])
			m.reduced = append(m.reduced, c.Rules[0])
		default:
			return read, c.End
		}
	}
	return read, false
}

// tree answers the derivation of which the rules that were reduced are the last ones: each stands behind what is within it, so they are taken from the last one on, and the names of a Right from the right.
func (m *machine) tree() []int {
	last := m.reduced[len(m.reduced)-1]
	m.reduced = m.reduced[:len(m.reduced)-1]
	var within []int
	for _, s := range slices.Backward(m.Rules[last].Right) {
		if !s.Term {
			within = append(m.tree(), within...)
		}
	}
	return append([]int{last}, within...)
}

// byWords answers what G1 and G2 say, of a grammar and tokens of which nothing is wrong but a clash, perhaps.
func byWords(t *testing.T, g api.Grammar, tokens []int) string {
	t.Helper()
	x, e := table.Of(g)
	if e != api.OK {
		t.Fatalf("Of %v: the error %v", g, e)
	}
	if table.Clashes(x) > 0 {
		return told(nil, 0, api.ErrClash)
	}
	m := &machine{Grammar: g, Table: x}
	read, done := m.do(tokens)
	switch {
	case len(m.reduced) > api.MaxSteps:
		return told(nil, 0, api.ErrSize)
	case !done:
		return told(nil, read, api.OK)
	}
	d := m.tree()
	if len(m.reduced) > 0 {
		t.Fatalf("%v, of %v: rules were reduced beside the derivation: %v", g, tokens, m.reduced)
	}
	return told(d, -1, api.OK)
}

// G1 and G2, by their words, on all short lists of tokens.
func TestWords(t *testing.T) {
	looked := map[string]int{}
	eachSmall(func(g api.Grammar) {
		most := []int{0, 6, 4, 3}[g.Terms]
		if clashes(t, g) {
			most = min(most, 1)
		}
		eachTokens(g.Terms, most, func(tokens []int) {
			answer := byWords(t, g, tokens)
			if got := told(parse.Parse(g, tokens)); got != answer {
				t.Fatalf("%v: %v: %s, not %s", g, tokens, got, answer)
			}
			looked[answer[:2]]++
		})
	})
	if looked["is"] < 1000 || looked["at"] < 5000 || looked["ba"] < 1000 {
		t.Error("too few lists of tokens were looked at:", looked)
	}
}

// G1 and G2, by their words, on long lists of which one token is another, or is lacking, or is one too many.
func TestWordsLong(t *testing.T) {
	for what, g := range greater() {
		below, looked := numbers(), 0
		for range 300 {
			d := someDerivation(g, below)
			if len(d) == 0 {
				continue
			}
			tokens := yielded(t, g, d)
			other, i := slices.Clone(tokens), below(len(tokens)+1)
			switch {
			case i == len(tokens) || below(3) == 0:
				other = slices.Insert(other, i, below(g.Terms))
			case below(2) == 0:
				other[i] = below(g.Terms)
			default:
				other = slices.Delete(other, i, i+1)
			}
			if len(other) <= api.MaxTokens {
				want(t, what, g, other, byWords(t, g, other))
				looked++
			}
		}
		if looked < 20 {
			t.Error(what, "too few lists of tokens:", looked)
		}
	}
}

// beginnings has what g's derivations yield, and all beginnings of that: of each name of g there is one that yields its beginnings, with the same number, and behind these there are g's own.
func beginnings(g api.Grammar) api.Grammar {
	own := func(s api.Sym) api.Sym {
		if s.Term {
			return s
		}
		return name(g.Names + s.N)
	}
	out := with(g.Terms, 2*g.Names)
	for n := range g.Names {
		out.Rules = append(out.Rules, rule(n))
	}
	for _, r := range g.Rules {
		var right []api.Sym
		for _, s := range r.Right {
			out.Rules = append(out.Rules, rule(r.Left, append(slices.Clone(right), s)...))
			right = append(right, own(s))
		}
		out.Rules = append(out.Rules, rule(g.Names+r.Left, right...))
	}
	return out
}

// G2: where all names make, as many tokens were read as may begin what a derivation yields, and not one more.
func TestReadAsFarAsMayBe(t *testing.T) {
	looked := 0
	eachSmall(func(g api.Grammar) {
		makes, _ := reach.Makes(g)
		if slices.Contains(makes, false) || clashes(t, g) {
			return
		}
		begin := beginnings(g)
		eachTokens(g.Terms, []int{0, 6, 4, 3}[g.Terms], func(tokens []int) {
			d, at, e := parse.Parse(g, tokens)
			if e == api.OK && at == -1 {
				return
			}
			far := 0
			for far < len(tokens) && mayBegin(t, begin, tokens[:far+1]) {
				far++
			}
			if e != api.OK || at != far || len(d) > 0 {
				t.Fatalf("%v: %v: %v %v %v, not %d", g, tokens, d, at, e, far)
			}
			looked++
		})
	})
	if looked < 1000 {
		t.Error("too few lists of tokens were looked at:", looked)
	}
}

func mayBegin(t *testing.T, begin api.Grammar, tokens []int) bool {
	t.Helper()
	has, e := recog.Has(begin, tokens)
	if e != api.OK {
		t.Fatalf("Has of %v, %v: the error %v", begin, tokens, e)
	}
	return has
}
