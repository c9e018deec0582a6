package drive_test

import (
	"slices"
	"strconv"
	"strings"
	"testing"

	"pollarding/api"
	"pollarding/drive"
)

// J1: 59 lines, just 60, and more: those behind count for nothing.
func TestMaxLines(t *testing.T) {
	for n := range 130 {
		count := min(n, 60)
		for _, end := range []string{"", "\n"} {
			script := strings.TrimSuffix(strings.Repeat("= a\n", n), "\n")
			if n > 0 {
				script += end
			}
			got := answers(t, script)
			if len(got) != count || count > 0 && got[count-1] != "ok "+strconv.Itoa(2*count) {
				t.Fatalf("%d lines: %q", n, got)
			}
		}
		if got := drive.Play(strings.Repeat("\n", n)); got != strings.Repeat("?\n", count) {
			t.Fatalf("%d empty lines: %q", n, got)
		}
		if got := drive.Play(strings.Repeat("x\n", n) + "fresh"); got != strings.Repeat("?\n", count)+strings.Repeat("ok\n", min(1, max(0, 60-n))) {
			t.Fatalf("%d lines and one without an end: %q", n, got)
		}
	}
}

// J1: lines that are wrong, or that have no grammar, count as well.
func TestAllLinesCount(t *testing.T) {
	for _, line := range []string{"", "x", "sets", "take", "fresh", "= ", "has 00"} {
		ahead := strings.Repeat(line+"\n", 59)
		if got := answers(t, ahead+"fresh\nfresh\n= a\n"); len(got) != 60 || got[59] != "ok" {
			t.Errorf("59 lines of %q, and three: %q", line, got)
		}
	}
}

// J2: tokens up to MaxTokens, and beyond; too many are told ahead of those that are no terms.
func TestMaxTokens(t *testing.T) {
	for _, n := range []int{0, 1, 29, 30, 31, 32, 33, 60, 61, 62, 100, 10000} {
		has, is, range1 := "yes", "is"+strings.Repeat(" 0", n)+" 1", "bad 3"
		if n > api.MaxTokens {
			has, is, range1 = "bad 1", "bad 1", "bad 1"
		}
		if n == 0 {
			range1 = "yes"
		}
		wantOf(t, "so many tokens", chapterText,
			[2]string{repeat("has", n, "0"), has},
			[2]string{repeat("parse", n, "0"), is},
			[2]string{repeat("has", n, "999999"), range1},
			[2]string{repeat("has", n, "1"), range1},
		)
		wantOf(t, "so many tokens, and a clash", clashText,
			[2]string{repeat("parse", n, "0"), map[bool]string{true: "bad 4", false: "bad 1"}[n <= api.MaxTokens]},
		)
		if n == api.MaxTokens {
			wantOf(t, "the last token", chapterText,
				[2]string{repeat("has", n-1, "0") + " 1", "bad 3"},
				[2]string{repeat("has", n, "0") + " 1", "bad 1"},
				[2]string{repeat("parse", n-1, "0") + " 1", "bad 3"},
				[2]string{repeat("parse", n, "0") + " 1", "bad 1"},
			)
		}
	}
}

func sym(isTerm bool, n int) api.Sym { return api.Sym{Term: isTerm, N: n} }

// tree has 20 rules of eight terms, and another one of so many, that begin with two terms each, no two with the same ones: so 3+20*7 states, and those of the last rule's own.
func tree(length int) api.Grammar {
	g := api.Grammar{Terms: api.MaxTerms, Names: 1}
	for i := range 21 {
		n := api.MaxRight
		if i == 20 {
			n = length
		}
		right := []api.Sym{sym(true, i/8), sym(true, i%8)}
		right = append(right, slices.Repeat([]api.Sym{sym(true, 5)}, n-2)...)
		g.Rules = append(g.Rules, api.Rule{Right: right})
	}
	return g
}

// J2: just MaxStates states, and one more.
func TestMaxStates(t *testing.T) {
	wantOf(t, "just so many", printed(t, tree(6)),
		[2]string{"table", "150 0"},
		[2]string{"parse 2 4 5 5 5 5", "is 20"},
		[2]string{"parse 2 4 5 5", "at 4"},
		[2]string{"has 2 4 5 5 5 5", "yes"},
	)
	wantOf(t, "one more", printed(t, tree(7)),
		[2]string{"table", "bad 1"},
		[2]string{"parse 2 4 5 5 5 5 5", "bad 1"},
		[2]string{"parse 999999", "bad 1"},
		[2]string{"has 2 4 5 5 5 5 5", "yes"},
		[2]string{"short", "7"},
		[2]string{"step 5 0 0 0", "ok 21"},
		[2]string{"step 2 20 0 7", "ok 22"},
		[2]string{"table", "bad 1"},
	)
}

// J2: a derivation of just MaxSteps rules is told whole; of more it is not.
func TestMaxSteps(t *testing.T) {
	const rest = "n1: n2 n2 n2 n2 n2 n2 n2 n2\nn2: n3 n3 n3 n3 n3 n3\nn3:\n"
	part := " 1" + strings.Repeat(" 2"+strings.Repeat(" 3", 6), 8)
	wantOf(t, "400 rules", "terms 1 names 4\nn0: n1 n1 n1 n1 n1 n1 n1\n"+rest,
		[2]string{"parse", "is 0" + strings.Repeat(part, 7)},
		[2]string{"parse 0", "at 0"},
		[2]string{"has", "yes"},
	)
	wantOf(t, "401 rules", "terms 1 names 4\nn0: n1 n1 n1 n1 n1 n1 n1 n3\n"+rest,
		[2]string{"parse", "bad 1"},
		[2]string{"has", "yes"},
		[2]string{"has 0", "no"},
	)
}

// full is at all limits at once.
func full() api.Grammar {
	g := api.Grammar{Terms: api.MaxTerms, Names: api.MaxNames}
	for i := range api.MaxRules {
		r := api.Rule{Left: i % api.MaxNames}
		for k := range api.MaxRight {
			r.Right = append(r.Right, sym(false, (i+k*k)%api.MaxNames))
		}
		if i >= api.MaxRules-api.MaxNames {
			r.Right = []api.Sym{sym(true, i%api.MaxTerms)}
		}
		g.Rules = append(g.Rules, r)
	}
	return g
}

// J1 and J2: a grammar at all limits fits into a script, with just as many lines left over as 60 lines leave.
func TestFull(t *testing.T) {
	s := printed(t, full())
	script, ahead := taking(s)
	script += strings.Repeat(lines("sets", "short", "table", repeat("has", 30, "3"), repeat("parse", 30, "3"), "show"), 10)
	got := answers(t, script)
	if len(got) != 60 || got[ahead-1] != "ok 40" || got[ahead+1] != repeat("1", 11, "1") || got[ahead+3] != "yes" && got[ahead+3] != "no" || got[ahead+5] != strconv.Itoa(len(s)) {
		t.Errorf("%q", got)
	}
	for i := ahead; i+6 < len(got); i++ {
		if got[i+6] != got[i] {
			t.Errorf("the lines %d and %d: %q, and %q", i, i+6, got[i], got[i+6])
		}
	}
	checkWords(t, script)
}

// J2: the rules, names and symbols of which too much would come.
func TestTooMuch(t *testing.T) {
	rules := strings.Repeat("n0: t0\n", 39)
	wantOf(t, "rules", "terms 1 names 2\n"+rules+"n1: n0\n",
		[2]string{"step 3 39 0 0", "bad 1"},
		[2]string{"step 2 0 0 1", "bad 1"},
		[2]string{"step 5 0 0 0", "ok 39"},
		[2]string{"step 2 0 0 1", "ok 40"},
		[2]string{"step 2 0 0 1", "bad 1"},
	)
	wantOf(t, "symbols", "terms 1 names 2\nn0: n1 t0 t0 t0 t0 t0 t0 t0\nn1: t0 t0\nn1:\n",
		[2]string{"step 3 0 0 0", "bad 1"},
		[2]string{"step 3 0 1 0", "bad 2"},
		[2]string{"show", "58"},
	)
	wantOf(t, "symbols of a name that begins with itself", "terms 1 names 1\nn0: n0 t0\nn0: t0 t0 t0 t0 t0 t0 t0 t0\n",
		[2]string{"step 4 0 0 0", "bad 1"},
		[2]string{"show", "54"},
	)
}

// J2 and I2: texts at A1's limits are taken; beyond them how many lines there are is told.
func TestTakeLimits(t *testing.T) {
	wantOf(t, "40 rules", "terms 8 names 12\n"+strings.Repeat("n11: t7\n", 40), [2]string{"show", "337"})
	script, _ := taking("terms 8 names 12\n" + strings.Repeat("n11: t7\n", 41))
	if got := answers(t, script); got[len(got)-1] != "bad 42" {
		t.Errorf("41 rules: %q", got)
	}
	for _, c := range []struct{ text, want string }{
		{"terms 9 names 1\n", "bad 1"},
		{"terms 1 names 13\nn0:\n", "bad 2"},
		{"terms 1 names 0\n", "bad 1"},
		{"terms 1 names 1\nn0: t0 t0 t0 t0 t0 t0 t0 t0 t0\n", "bad 2"},
		{"terms 1 names 1\nn0: t10000\n", "bad 1"},
		{"terms 1 names 1\nn0:\nn0: x\nn0:\n", "bad 2"},
	} {
		script, _ := taking(c.text)
		if got := answers(t, script); got[len(got)-1] != c.want {
			t.Errorf("%q: %q, not %q", c.text, got, c.want)
		}
	}
}
