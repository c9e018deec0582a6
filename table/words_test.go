package table_test

import (
	"maps"
	"slices"
	"testing"

	"pollarding/api"
	"pollarding/sets"
	"pollarding/table"
)

// above is the rule above.
const above = -1

type item struct{ rule, read int }

type spot struct {
	state int
	item  item
}

type set map[item]bool

// words holds a table against the chapter's own words: it finds the states as sets of items, and the lookaheads by the reasons for them.
type words struct {
	api.Grammar
	known  api.Sets
	comes  [][]bool // of each name, which names' rules close it: those that it comes to by the first symbols of rules, and itself
	states []set
	goes   []map[api.Sym]int
}

func wordsOf(t *testing.T, g api.Grammar) *words {
	t.Helper()
	known, e := sets.Of(g)
	if e != api.OK {
		t.Fatal(e)
	}
	w := &words{Grammar: g, known: known}
	for n := range g.Names {
		w.comes = append(w.comes, make([]bool, g.Names))
		w.comes[n][n] = true
	}
	for _, r := range g.Rules {
		if len(r.Right) > 0 && !r.Right[0].Term {
			w.comes[r.Left][r.Right[0].N] = true
		}
	}
	for by := range g.Names {
		for from := range g.Names {
			for to := range g.Names {
				w.comes[from][to] = w.comes[from][to] || w.comes[from][by] && w.comes[by][to]
			}
		}
	}
	w.findStates()
	return w
}

// rest are the symbols of an item that are not yet read.
func (w *words) rest(it item) []api.Sym {
	if it.rule == above {
		return []api.Sym{name(0)}[it.read:]
	}
	return w.Rules[it.rule].Right[it.read:]
}

// isClosed asks F1's words of a set.
func (w *words) isClosed(s set) bool {
	for it := range s {
		rest := w.rest(it)
		if len(rest) == 0 || rest[0].Term {
			continue
		}
		for i, r := range w.Rules {
			if r.Left == rest[0].N && !s[item{i, 0}] {
				return false
			}
		}
	}
	return true
}

// close puts to a set the rules of all names that its next names come to.
func (w *words) close(begin set) set {
	out := maps.Clone(begin)
	for it := range begin {
		rest := w.rest(it)
		if len(rest) == 0 || rest[0].Term {
			continue
		}
		for i, r := range w.Rules {
			if w.comes[rest[0].N][r.Left] {
				out[item{i, 0}] = true
			}
		}
	}
	return out
}

// symbols are all of them, terms ahead of names, by number.
func (w *words) symbols() []api.Sym {
	var out []api.Sym
	for n := range w.Terms {
		out = append(out, term(n))
	}
	for n := range w.Names {
		out = append(out, name(n))
	}
	return out
}

// findStates finds the states by F1, as far as there is one too many of them.
func (w *words) findStates() {
	w.states = []set{w.close(set{{above, 0}: true})}
	for from := 0; from < len(w.states); from++ {
		w.goes = append(w.goes, map[api.Sym]int{})
		for _, by := range w.symbols() {
			begin := set{}
			for it := range w.states[from] {
				if rest := w.rest(it); len(rest) > 0 && rest[0] == by {
					begin[item{it.rule, it.read + 1}] = true
				}
			}
			if len(begin) == 0 {
				continue
			}
			items := w.close(begin)
			to := slices.IndexFunc(w.states, func(s set) bool { return maps.Equal(s, items) })
			if to < 0 {
				to = len(w.states)
				w.states = append(w.states, items)
			}
			w.goes[from][by] = to
			if len(w.states) > api.MaxStates {
				return
			}
		}
	}
}

// behind tells what may begin syms, and whether all of them are Null.
func (w *words) behind(syms []api.Sym) ([]int, bool) {
	var out []int
	for _, s := range syms {
		if s.Term {
			return append(out, s.N), false
		}
		for n, has := range w.known.First[s.N] {
			if has {
				out = append(out, n)
			}
		}
		if !w.known.Null[s.N] {
			return out, false
		}
	}
	return out, true
}

// reasons tells why spots have lookaheads, by F2: of each lookahead, which ones have it by themselves; and who has what a spot has.
func (w *words) reasons() (own [][]spot, on map[spot][]spot) {
	own, on = make([][]spot, w.Terms+1), map[spot][]spot{}
	own[w.Terms] = []spot{{0, item{above, 0}}}
	for state, items := range w.states {
		for it := range items {
			rest, at := w.rest(it), spot{state, it}
			if len(rest) == 0 {
				continue
			}
			on[at] = append(on[at], spot{w.goes[state][rest[0]], item{it.rule, it.read + 1}})
			if rest[0].Term {
				continue
			}
			first, null := w.behind(rest[1:])
			for i, r := range w.Rules {
				if r.Left != rest[0].N {
					continue
				}
				closing := spot{state, item{i, 0}}
				for _, n := range first {
					own[n] = append(own[n], closing)
				}
				if null {
					on[at] = append(on[at], closing)
				}
			}
		}
	}
	return own, on
}

// looks answers, of each lookahead, which spots have it: the least sets, for they are those that it comes to from where it is by itself, and no others.
func (w *words) looks() []map[spot]bool {
	var out []map[spot]bool
	own, on := w.reasons()
	for _, open := range own {
		has := map[spot]bool{}
		for ; len(open) > 0; open = open[1:] {
			if !has[open[0]] {
				has[open[0]] = true
				open = append(open, on[open[0]]...)
			}
		}
		out = append(out, has)
	}
	return out
}

// table is the one that F3 asks for.
func (w *words) table() api.Table {
	var x api.Table
	looks := w.looks()
	to := func(state int, by api.Sym) int {
		if n, ok := w.goes[state][by]; ok {
			return n
		}
		return -1
	}
	for state := range w.states {
		cells := make([]api.Cell, w.Terms+1)
		for n := range w.Terms {
			cells[n].Shift = to(state, term(n))
		}
		cells[w.Terms].Shift = -1
		for i, r := range w.Rules {
			whole := item{i, len(r.Right)}
			for n := range cells {
				if w.states[state][whole] && looks[n][spot{state, whole}] {
					cells[n].Rules = append(cells[n].Rules, i)
				}
			}
		}
		done := item{above, 1}
		cells[w.Terms].End = w.states[state][done] && looks[w.Terms][spot{state, done}]
		var gotos []int
		for n := range w.Names {
			gotos = append(gotos, to(state, name(n)))
		}
		x.Cells, x.Goto = append(x.Cells, cells), append(x.Goto, gotos)
	}
	return x
}

func sameCell(a, b api.Cell) bool {
	return a.Shift == b.Shift && a.End == b.End && slices.Equal(a.Rules, b.Rules)
}

// clashes counts by F4's words.
func clashes(x api.Table) int {
	n := 0
	for _, cells := range x.Cells {
		n += len(slices.DeleteFunc(slices.Clone(cells), func(c api.Cell) bool {
			return !(c.Shift != -1 && len(c.Rules) > 0 || c.Shift != -1 && c.End || len(c.Rules) > 0 && c.End || len(c.Rules) > 1)
		}))
	}
	return n
}

// wantWords holds all that Of and Clashes tell of a grammar against the words, and tells how many states there are.
func wantWords(t *testing.T, g api.Grammar) int {
	t.Helper()
	w := wordsOf(t, g)
	if len(w.states) > api.MaxStates {
		wantError(t, "too many states", g, api.ErrSize)
		return len(w.states)
	}
	x, want := asked(t, g), w.table()
	if len(x.Cells) != len(want.Cells) {
		t.Fatalf("%v: %d states, not %d", g, len(x.Cells), len(want.Cells))
	}
	for i := range want.Cells {
		if !w.isClosed(w.states[i]) {
			t.Fatalf("%v: the state %d is held against a set that is not closed", g, i)
		}
		if !slices.EqualFunc(x.Cells[i], want.Cells[i], sameCell) || !slices.Equal(x.Goto[i], want.Goto[i]) {
			t.Fatalf("%v: the state %d:\n%v %v, not\n%v %v", g, i, x.Cells[i], x.Goto[i], want.Cells[i], want.Goto[i])
		}
	}
	if got := table.Clashes(x); got != clashes(want) {
		t.Fatalf("%v: %d clashes, not %d", g, got, clashes(want))
	}
	return len(x.Cells)
}

// F1 to F4, on many small grammars, against the chapter's words.
func TestWords(t *testing.T) {
	states, clash := 0, 0
	eachSmall(func(g api.Grammar) {
		states = max(states, wantWords(t, g))
		if table.Clashes(asked(t, g)) > 0 {
			clash++
		}
	})
	if states < 20 || clash < 300 || clash > 2700 {
		t.Error("too little was looked at:", states, clash)
	}
}

// F1 to F4, on greater grammars: some of them have too many states.
func TestWordsOfGreaterOnes(t *testing.T) {
	fit, many := 0, 0
	eachOf(200, api.MaxTerms+1, api.MaxNames, api.MaxRules+1, api.MaxRight+1, func(g api.Grammar) {
		switch n := wantWords(t, g); {
		case n > api.MaxStates:
			many++
		case n > 50:
			fit++
		}
	})
	if fit < 30 || many < 5 {
		t.Error("too little was looked at:", fit, many)
	}
}

// F1 to F4: the rules' order changes no number of a state, and of the rules their numbers alone.
func TestRulesInReverse(t *testing.T) {
	eachSmall(func(g api.Grammar) {
		back := copied(g)
		slices.Reverse(back.Rules)
		x, y := asked(t, g), asked(t, back)
		for _, cells := range y.Cells {
			for _, c := range cells {
				for i := range c.Rules {
					c.Rules[i] = len(g.Rules) - 1 - c.Rules[i]
				}
				slices.Reverse(c.Rules)
			}
		}
		if told(x) != told(y) {
			t.Fatalf("%v:\n%s\nand in reverse\n%s", g, told(x), told(y))
		}
	})
}
