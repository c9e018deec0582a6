package drive_test

import (
	"strconv"
	"testing"
)

// asking are lines that ask for a grammar.
var asking = []string{
	"sets", "short", "table", "show",
	"has", "has 0", "has 0 0", "has 10", "has 999999", "has 0 999999 0", repeat("has", 31, "0"), repeat("has", 500, "999999"),
	"parse", "parse 0", "parse 1 0", "parse 999999", repeat("parse", 31, "7"), repeat("parse", 500, "999999"),
	"step 0 0 0 0", "step 1 1 2 0", "step 4 0 0 0", "step 5 0 0 0", "step 10 20 30 40", "step 999999 999999 999999 999999",
}

// wrong are lines that are none of J2's.
var wrong = []string{
	"", " ", "  ", "\t", "\r", "\x00", "?", "ok", "none", "0", "1 2", "-", "#", "# no", "\xff", "\u00e9",
	"=", "=a", "=\t", "=\x00", " =", " = a", "== a", "put a", "=\u00a0a",
	"fresh ", " fresh", "fresh 0", "Fresh", "FRESH", "fres", "freshh", "fresh\r", "fresh\t", "fresh\x00", "fresh fresh",
	"take ", " take", "take 0", "Take", "tak", "takes", "take\r", "take take", "take = a",
	"sets ", " sets", "sets 0", "Sets", "set", "setss", "sets\r", "sets sets", "sets\xff",
	"short ", " short", "short 0", "Short", "shor", "shorts", "short\r",
	"table ", " table", "table 0", "Table", "tabl", "tables", "table\r",
	"show ", " show", "show 0", "Show", "sho", "shows", "show\r",
	"step", "step ", "step 4", "step 4 0", "step 4 0 0", "step 4 0 0 ", "step 4 0 0 0 ", "step 4 0 0 0 0", " step 4 0 0 0",
	"step  4 0 0 0", "step 4  0 0 0", "step 4 0 0  0", "step 4,0,0,0", "step\t4 0 0 0", "step 4 0 0 0\r", "Step 4 0 0 0", "steps 4 0 0 0", "step4 0 0 0",
	"step 04 0 0 0", "step 4 00 0 0", "step 4 0 00 0", "step 4 0 0 00", "step -4 0 0 0", "step 4 -1 0 0", "step 4 0 0 -0", "step +4 0 0 0", "step 4 0 0 1000000", "step x 0 0 0",
	repeat("step", 5, "1"), repeat("step", 30, "1"), repeat("step", 31, "1"), repeat("step", 32, "1"), repeat("step", 35, "1"), repeat("step", 500, "1"),
	"0 has", "0", "0 0", " 0", "hash 0", "parses 0", "get 0", "swap 1 1 2 0", "reach", "makes", "yield 0", "quit", "terms 1 names 1", "n0:",
}

// wrongWords are no NUMBERs.
var wrongWords = []string{
	"", "00", "01", "007", "000000", "0000000", "0000001", "000001", "1000000", "9999999", "99999999999999999999", "18446744073709551616", "4294967296",
	"-1", "-0", "+0", "+1", "-", "+", "0x1", "0b1", "0o1", "1e1", "1.0", "1_0", "1,0", "a", "1a", "a1", "t0", "n0", "/", ":", "0:", "0\t", "\t0", "0\r", "0\x00", "\xff", "0\xff", "\u0660", "\uff11", "\u00b2",
}

// wantEach asks for the same answer to each line, without a grammar and with one; and that the text and the grammar are then as they were.
func wantEach(t *testing.T, each []string, without, with string) {
	t.Helper()
	for _, line := range each {
		if got := answers(t, lines(line)); len(got) != 1 || got[0] != without {
			t.Errorf("%q, without a grammar: %q, not %q", line, got, without)
		}
		if with == "" {
			continue
		}
		wantOf(t, "with a grammar", chapterText,
			[2]string{line, with},
			[2]string{"show", strconv.Itoa(len(chapterText))},
			[2]string{"take", "ok 2"},
			[2]string{"= x", "ok " + strconv.Itoa(len(chapterText)+2)},
		)
	}
}

// J2: lines that ask for a grammar, where there is none: also where a text stands there, is wrong, or is no more.
func TestNone(t *testing.T) {
	wantEach(t, asking, "none", "")
	for _, line := range asking {
		wantPlay(t, "no grammar",
			[2]string{line, "none"},
			[2]string{"= terms 1 names 1", "ok 16"},
			[2]string{line, "none"},
			[2]string{"= x", "ok 18"},
			[2]string{"take", "bad 1"},
			[2]string{line, "none"},
			[2]string{"fresh", "ok"},
			[2]string{line, "none"},
			[2]string{line + " x", "?"},
		)
	}
}

// J2: any other line has the answer `?`, whether there is a grammar or not, and leaves all as it is.
func TestOther(t *testing.T) {
	wantEach(t, wrong, "?", "?")
	var near []string
	for _, line := range asking {
		near = append(near, line+" ", " "+line, line+"\r", line+"x", line+" x", "x"+line, line+" -1", line+" 01")
	}
	wantEach(t, near, "?", "?")
}

// J1 and J2: what is no NUMBER makes any line another one, wherever it stands, also behind very many tokens.
func TestWrongNumbers(t *testing.T) {
	for _, w := range wrongWords {
		var each []string
		for _, word := range []string{"has", "parse"} {
			each = append(each, word+" "+w, word+" 0 "+w, word+" "+w+" 0", word+" 0 "+w+" 0", repeat(word, 30, "0")+" "+w, repeat(word, 31, "0")+" "+w, repeat(word, 100, "0")+" "+w+" 0")
		}
		each = append(each, "step "+w+" 0 0 0", "step 4 "+w+" 0 0", "step 4 0 "+w+" 0", "step 4 0 0 "+w)
		wantEach(t, each, "?", "?")
	}
}

// J1: NUMBERs of one to six digits are all there are; each is read as itself. (A token tells only whether it is a term: so names' and rules' numbers are asked, too.)
func TestNumbers(t *testing.T) {
	for n := range 1000 {
		word := strconv.Itoa(n)
		want := [2]string{"bad 3", "bad 3"}
		if n < 3 {
			want = [2]string{"no", "at 0"}
		}
		if n == 0 {
			want = [2]string{"no", "at 1"}
		}
		wantStep := "bad 2"
		if n == 1 {
			wantStep = "ok 3"
		}
		wantOf(t, "small numbers", pairText,
			[2]string{"has " + word, want[0]},
			[2]string{"parse " + word, want[1]},
			[2]string{"step 1 1 " + word + " 0", wantStep},
			[2]string{"step 1 " + word + " 1 0", wantStep},
			[2]string{"step 1 1 1 " + word, map[bool]string{true: "ok 3", false: "bad 2"}[n == 0]},
		)
	}
	for _, word := range []string{"1000", "9999", "10000", "65536", "99999", "100000", "131072", "262144", "999998", "999999"} {
		wantOf(t, "great numbers", pairText,
			[2]string{"has " + word, "bad 3"},
			[2]string{"parse " + word, "bad 3"},
			[2]string{"step " + word + " 0 0 0", "bad 2"},
			[2]string{"step 1 " + word + " 1 0", "bad 2"},
			[2]string{"step 1 1 " + word + " 0", "bad 2"},
			[2]string{"step 1 1 1 " + word, "bad 2"},
		)
	}
}
