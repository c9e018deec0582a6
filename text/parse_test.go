package text_test

import (
	"strings"
	"testing"

	"pollarding/api"
)

// wrongHeads are no first lines.
var wrongHeads = []string{
	"", " ", "\r", "\x00", "terms", "terms ", "terms 1", "terms 1 ", "terms 1 names", "terms 1 names ",
	"terms 1 names 1 ", " terms 1 names 1", "terms 1 names 1\r", "terms 1 names 1\t", "terms 1 names 1\x00",
	"terms  1 names 1", "terms 1  names 1", "terms 1 names  1", "terms\t1 names 1", "terms1 names 1", "terms 1names 1", "terms 1 names1",
	"Terms 1 names 1", "terms 1 Names 1", "TERMS 1 NAMES 1", "term 1 name 1", "names 1 terms 1", "terms 1", "names 1", "1 1", "terms 1 1", "terms names 1 1",
	"terms 1 names 1 1", "terms 1 names 1 names 1", "terms 1 names 1 n0:", "terms 1 names 1:", "terms: 1 names: 1", "terms 1, names 1",
	"terms 01 names 1", "terms 1 names 01", "terms 00 names 1", "terms 0 names 00", "terms 0000 names 1", "terms 0001 names 1",
	"terms 10000 names 1", "terms 1 names 10000", "terms 99999 names 1", "terms 1 names 99999999999999999999999", "terms 18446744073709551617 names 1",
	"terms -1 names 1", "terms 1 names -1", "terms +1 names 1", "terms -0 names 1", "terms 1.0 names 1", "terms 1e0 names 1", "terms 0x1 names 1", "terms 1_0 names 1",
	"terms a names 1", "terms 1 names b", "terms 1a names 1", "terms 1 names 1a", "terms / names 1", "terms : names 1", "terms \u0661 names 1", "terms 1 names \uff11",
	"n0:", "n0: t0 n0", "terms 1 names 1n0:",
}

// wrongRules are no lines of rules.
var wrongRules = []string{
	"", " ", "\r", "\x00", "n", "n:", ":", "n0", "0:", "n0: ", "n0:  ", " n0:", "n0 :", "n0:\r", "n0:\t", "n 0:", "n0::", "n0;",
	"t0:", "N0:", "m0:", "nn0:", "n0n0:", "n0 n0:", "tn0:", "n0: :",
	"n00:", "n01:", "n0000:", "n10000:", "n99999:", "n-1:", "n+1:", "n-0:", "n/:", "n1a:", "nx:", "n99999999999999999999:",
	"n0: t", "n0: n", "n0: 0", "n0: x", "n0: x0", "n0: T0", "n0: N0", "n0: tn0", "n0: nt0", "n0: t 0", "n0: tt0",
	"n0:t0", "n0:n0", "n0:  t0", "n0: t0 ", "n0: t0  n0", "n0: t0\tn0", "n0:\tt0", "n0: t0n0", "n0: t0,n0", "n0: t0\r", "n0: t0\x00",
	"n0: t00", "n0: t01", "n0: n00", "n0: n01", "n0: t10000", "n0: n10000", "n0: t-1", "n0: n-1", "n0: t+0", "n0: t0 n0 x", "n0: t0 n0 t", "n0: t0 n0 n00",
	"n0: t\u0660", "n\u0660:", "n0: t99999999999999999999", "n0: t18446744073709551616", "n0: t0 n0:", "n0: t0 | n0", "n0: t0 # no", "# no", "terms 1 names 1", "terms 1 names 1 n0:",
}

// I2: a first line that is none, alone and with others behind it, right and wrong ones.
func TestWrongHead(t *testing.T) {
	for _, line := range wrongHeads {
		for _, rest := range []string{"", lines("n0:"), lines("n0: t0 n0", "n0:"), lines("x"), lines(""), lines("terms 1 names 1"), "n0", "x"} {
			wantFault(t, "a wrong first line", lines(line)+rest, 0)
		}
	}
}

// I2: another line that is none is told with its number, the first one of them alone, and ahead of what may not be.
func TestWrongLine(t *testing.T) {
	for _, line := range wrongRules {
		for _, rest := range []string{"", lines("n0:"), lines("n0: t0 n0", "n0:"), lines("x"), lines("", "n1:"), "n0:", "x"} {
			wantFault(t, "a wrong line 1", lines("terms 1 names 1", line)+rest, 1)
			wantFault(t, "a wrong line 3", lines("terms 1 names 1", "n0:", "n0: t0 n0", line)+rest, 3)
			wantFault(t, "lines that may not be ahead", lines("terms 9999 names 0", "n9999: t9999", line)+rest, 2)
			wantFault(t, "too many lines ahead", lines("terms 1 names 1")+strings.Repeat("n0:\n", 100)+lines(line)+rest, 101)
			wantFault(t, "too many symbols ahead", lines("terms 1 names 1", "n0:"+strings.Repeat(" t0", 100), line)+rest, 2)
		}
	}
	wantFault(t, "too many symbols in it", lines("terms 1 names 1", "n0:"+strings.Repeat(" t0", 100)+" x"), 1)
	wantFault(t, "a digit too many behind too many symbols", lines("terms 1 names 1", "n0:"+strings.Repeat(" t0", 100)+" t10000"), 1)
}

// I2: what is behind the last byte 10 is a line that is none, whatever it is.
func TestUnended(t *testing.T) {
	for _, tail := range []string{"n0:", "n0: t0 n0", "terms 1 names 1", "x", " ", "\r", "\x00", "n", "t0"} {
		wantFault(t, "no line ended", tail, 0)
		wantFault(t, "one line ended", lines("terms 1 names 1")+tail, 1)
		wantFault(t, "three lines ended", chapterText+tail, 3)
		wantFault(t, "lines that may not be ended", lines("terms 9 names 13", "n0: n13")+tail, 2)
		wantFault(t, "another wrong one ahead", lines("terms 1 names 1", "n0", "n0:")+tail, 1)
	}
	for end := range len(chapterText) {
		at := strings.Count(chapterText[:end], "\n")
		if end == 0 || chapterText[end-1] != '\n' {
			wantFault(t, "cut off", chapterText[:end], at)
		} else {
			parsed(t, chapterText[:end])
		}
	}
}

// I2: where each line is as said, but the grammar may not be, At is how many lines there are.
func TestMayNotBe(t *testing.T) {
	for _, c := range []struct {
		what string
		text string
		at   int
	}{
		{"no line", "", 0},
		{"no names", lines("terms 1 names 0"), 1},
		{"no names, and rules", lines("terms 1 names 0", "n0:", "n0: t0"), 3},
		{"terms beyond the limit", lines("terms 9 names 1"), 1},
		{"names beyond the limit", lines("terms 1 names 13"), 1},
		{"four digits", lines("terms 9999 names 9999"), 1},
		{"four digits of terms", lines("terms 1000 names 1", "n0:"), 2},
		{"four digits of names", lines("terms 1 names 1000", "n0:"), 2},
		{"Left beyond the names", lines("terms 1 names 1", "n1:"), 2},
		{"Left beyond the names, but not the terms", lines("terms 8 names 1", "n5:"), 2},
		{"Left of four digits", lines("terms 1 names 1", "n9999:"), 2},
		{"a term beyond the terms", lines("terms 1 names 3", "n0: t1"), 2},
		{"a term where there is none", lines("terms 0 names 3", "n0: t0"), 2},
		{"a term of four digits", lines("terms 1 names 3", "n0: t1000"), 2},
		{"a name beyond the names", lines("terms 5 names 3", "n0: n3"), 2},
		{"a name of four digits", lines("terms 1 names 3", "n0: n9999"), 2},
		{"the first rule of some", lines("terms 1 names 1", "n1:", "n0:", "n0: t0"), 4},
		{"the last rule of some", lines("terms 1 names 1", "n0:", "n0: t0", "n0: t0 n1"), 4},
		{"symbols beyond the limit", lines("terms 1 names 1", "n0: t0 t0 t0 t0 t0 t0 t0 t0 t0"), 2},
		{"names beyond the limit in a Right", lines("terms 1 names 1", "n0: n0 n0 n0 n0 n0 n0 n0 n0 n0", "n0:"), 3},
		{"far more symbols", lines("terms 1 names 1", "n0:"+strings.Repeat(" t0", 10000)), 2},
		{"rules beyond the limit", lines("terms 1 names 1") + strings.Repeat("n0:\n", api.MaxRules+1), 42},
		{"two rules beyond the limit", lines("terms 1 names 1") + strings.Repeat("n0: t0\n", api.MaxRules+2), 43},
		{"far more rules", lines("terms 1 names 1") + strings.Repeat("n0: n0\n", 100000), 100001},
	} {
		wantFault(t, c.what, c.text, c.at)
	}
}
