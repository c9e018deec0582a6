package drive_test

import (
	"strconv"
	"testing"

	"pollarding/drive"
)

// J1 and J2: whole scripts, worked out by hand.
func TestPlay(t *testing.T) {
	wantPlay(t, "the grammar of chapter 1",
		[2]string{"= terms 1 names 1", "ok 16"},
		[2]string{"= n0: t0 n0", "ok 26"},
		[2]string{"= n0:", "ok 30"},
		[2]string{"take", "ok 2"},
		[2]string{"sets", "1 1 1"},
		[2]string{"short", "0"},
		[2]string{"table", "4 0"},
		[2]string{"has", "yes"},
		[2]string{"has 0 0", "yes"},
		[2]string{"has 1", "bad 3"},
		[2]string{"parse", "is 1"},
		[2]string{"parse 0 0", "is 0 0 1"},
		[2]string{"parse 0 1", "bad 3"},
		[2]string{"show", "30"},
		[2]string{"step 2 0 1 2", "ok 3"},
		[2]string{"show", "37"},
		[2]string{"parse 0 0", "is 0 2 0 2 1"},
		[2]string{"sets", "1 1 1 1 1 1"},
		[2]string{"short", "0 0"},
	)
	wantPlay(t, "a grammar that begins with itself",
		[2]string{"take", "bad 0"},
		[2]string{"table", "none"},
		[2]string{"= terms 1 names 1", "ok 16"},
		[2]string{"= n0: n0 t0", "ok 26"},
		[2]string{"= n0:", "ok 30"},
		[2]string{"take", "ok 2"},
		[2]string{"sets", "1 1 2"},
		[2]string{"table", "3 0"},
		[2]string{"parse 0 0 0", "is 0 0 0 1"},
		[2]string{"step 4 0 0 0", "ok 3"},
		[2]string{"parse 0 0 0", "is 1 0 0 0 2"},
		[2]string{"step 4 0 0 0", "bad 2"},
		[2]string{"step 5 0 0 0", "ok 3"},
		[2]string{"take", "ok 2"},
		[2]string{"parse 0 0 0", "is 0 0 0 1"},
	)
}

// J2: of several names, each has its three numbers, or its one, in order.
func TestNames(t *testing.T) {
	wantOf(t, "names of all kinds", namesText,
		[2]string{"sets", "0 2 1 1 1 1 0 1 1 1 0 0"},
		[2]string{"short", "-1 0 -1 0"},
		[2]string{"has 0 2", "no"},
		[2]string{"show", strconv.Itoa(len(namesText))},
		[2]string{"step 1 1 2 0", "ok 5"},
		[2]string{"sets", "0 2 1 0 1 1 1 1 1 1 0 0"},
		[2]string{"short", "-1 -1 0 0"},
		[2]string{"step 5 0 0 0", "ok 0"},
		[2]string{"sets", "0 0 1 0 0 0 0 0 0 0 0 0"},
		[2]string{"short", "-1 -1 -1 -1"},
		[2]string{"table", "2 0"},
		[2]string{"has", "no"},
		[2]string{"parse", "at 0"},
		[2]string{"parse 2 1", "at 0"},
		[2]string{"show", "16"},
	)
	wantOf(t, "no terms", "terms 0 names 1\nn0:\n",
		[2]string{"sets", "1 0 1"},
		[2]string{"short", "0"},
		[2]string{"table", "2 0"},
		[2]string{"has", "yes"},
		[2]string{"has 0", "bad 3"},
		[2]string{"parse", "is 0"},
		[2]string{"parse 0", "bad 3"},
	)
	wantOf(t, "no rules", "terms 8 names 12\n",
		[2]string{"sets", repeat("0 0 1", 11, "0 0 0")},
		[2]string{"short", repeat("-1", 11, "-1")},
		[2]string{"table", "2 0"},
		[2]string{"show", "17"},
	)
	wantOf(t, "long yields", "terms 1 names 3\nn0: n1 n1 n1 n1 n1 n1 n1 n1\nn1: n2 n2 n2 n2 n2\nn2: t0 t0 t0\n",
		[2]string{"short", "120 15 3"},
		[2]string{"sets", "0 1 1 0 1 2 0 1 2"},
	)
}

// J2: where a table clashes, tokens are had, but not parsed.
func TestClash(t *testing.T) {
	wantOf(t, "a clash", clashText,
		[2]string{"table", "4 1"},
		[2]string{"has", "no"},
		[2]string{"has 0", "yes"},
		[2]string{"has 0 0 0", "yes"},
		[2]string{"has 0 1", "no"},
		[2]string{"parse", "bad 4"},
		[2]string{"parse 0", "bad 4"},
		[2]string{"parse 1", "bad 4"},
		[2]string{"parse 2", "bad 3"},
		[2]string{"has 2", "bad 3"},
		[2]string{"short", "1"},
		[2]string{"sets", "0 1 2"},
	)
}

// J2: where tokens are not done, it is told where.
func TestAt(t *testing.T) {
	wantOf(t, "pairs", pairText,
		[2]string{"parse", "is 0 2"},
		[2]string{"parse 0 1", "is 0 1 2"},
		[2]string{"parse 0 0 1 1", "is 0 1 1 2"},
		[2]string{"parse 1", "at 0"},
		[2]string{"parse 2", "at 0"},
		[2]string{"parse 0", "at 1"},
		[2]string{"parse 0 0 1", "at 3"},
		[2]string{"parse 0 1 1", "at 2"},
		[2]string{"parse 0 0 2 1", "at 2"},
		[2]string{"parse 0 3", "bad 3"},
		[2]string{"has 0 0 1 1", "yes"},
		[2]string{"has 0 0 1", "no"},
		[2]string{"has 2", "no"},
		[2]string{"has 3", "bad 3"},
		[2]string{"has 999999", "bad 3"},
	)
}

// J2: each kind of step, with its numbers in the order Op, A, B, C; a step that is none, and one of which too much comes, leave the grammar as it is.
func TestSteps(t *testing.T) {
	wantOf(t, "each kind", lastText,
		[2]string{"step 1 1 1 0", "ok 4"},
		[2]string{"step 2 0 1 3", "ok 5"},
		[2]string{"show", "60"},
		[2]string{"step 3 0 1 0", "ok 5"},
		[2]string{"show", "63"},
		[2]string{"step 4 1 0 0", "ok 6"},
		[2]string{"show", "70"},
		[2]string{"step 1 1 3 0", "ok 6"},
		[2]string{"parse 1 2", "is 1 2 3 5"},
		[2]string{"parse 1 0 1 2", "is 0 1 2 5 2 3 5"},
		[2]string{"step 5 0 0 0", "ok 5"},
		[2]string{"parse 1 0 1 2", "is 0 1 2 4 2 3 4"},
	)
	wantOf(t, "none of these", lastText,
		[2]string{"step 0 0 0 0", "bad 2"},
		[2]string{"step 6 0 0 0", "bad 2"},
		[2]string{"step 999999 0 0 0", "bad 2"},
		[2]string{"step 1 0 1 0", "bad 2"},
		[2]string{"step 1 1 2 0", "bad 2"},
		[2]string{"step 2 0 1 1", "bad 2"},
		[2]string{"step 2 0 0 4", "bad 2"},
		[2]string{"step 2 4 0 1", "bad 2"},
		[2]string{"step 3 0 0 0", "bad 2"},
		[2]string{"step 3 0 1 0", "bad 2"},
		[2]string{"step 4 2 0 0", "bad 2"},
		[2]string{"step 4 999999 999999 999999", "bad 2"},
		[2]string{"step 5 0 0 1", "bad 2"},
		[2]string{"show", strconv.Itoa(len(lastText))},
		[2]string{"parse 1 0 1 2", "is 0 1 2 3 2"},
	)
	wantOf(t, "too much", "terms 1 names 12\nn0: t0 t0\nn0: n0\n",
		[2]string{"step 2 0 0 1", "bad 1"},
		[2]string{"show", "34"},
		[2]string{"table", "4 1"},
	)
}

// J2: how the text, and the grammar that was taken of it, hang on one another: by take alone.
func TestTextAndGrammar(t *testing.T) {
	wantPlay(t, "put, fresh and take",
		[2]string{"fresh", "ok"},
		[2]string{"take", "bad 0"},
		[2]string{"= terms 1 names 2", "ok 16"},
		[2]string{"show", "none"},
		[2]string{"take", "ok 0"},
		[2]string{"show", "16"},
		[2]string{"= n0: t0", "ok 23"},
		[2]string{"show", "16"},
		[2]string{"take", "ok 1"},
		[2]string{"show", "23"},
		[2]string{"= wrong", "ok 29"},
		[2]string{"take", "bad 2"},
		[2]string{"show", "23"},
		[2]string{"has 0", "yes"},
		[2]string{"fresh", "ok"},
		[2]string{"show", "23"},
		[2]string{"take", "bad 0"},
		[2]string{"parse 0", "is 0"},
		[2]string{"= terms 1 names 1", "ok 16"},
		[2]string{"= n1:", "ok 20"},
		[2]string{"take", "bad 2"},
		[2]string{"fresh", "ok"},
		[2]string{"fresh", "ok"},
		[2]string{"= terms 2 names 1", "ok 16"},
		[2]string{"= n0: t1", "ok 23"},
		[2]string{"has 0", "yes"},
		[2]string{"take", "ok 1"},
		[2]string{"has 0", "no"},
		[2]string{"has 1", "yes"},
		[2]string{"step 2 0 0 1", "ok 2"},
		[2]string{"show", "30"},
		[2]string{"= n0:", "ok 27"},
		[2]string{"show", "30"},
		[2]string{"take", "ok 2"},
		[2]string{"show", "27"},
	)
}

// J2: any bytes may be put, none, too; each of them counts.
func TestBytes(t *testing.T) {
	wantPlay(t, "bytes",
		[2]string{"= ", "ok 1"},
		[2]string{"=  ", "ok 3"},
		[2]string{"= = ", "ok 6"},
		[2]string{"= take", "ok 11"},
		[2]string{"= \xff\xfe\x00", "ok 15"},
		[2]string{"= \u00e9\u4e16", "ok 21"},
		[2]string{"= \r", "ok 23"},
		[2]string{"take", "bad 0"},
		[2]string{"fresh", "ok"},
		[2]string{"= terms 1 names 1", "ok 16"},
		[2]string{"= ", "ok 17"},
		[2]string{"take", "bad 1"},
		[2]string{"fresh", "ok"},
		[2]string{"= terms 1 names 1\r", "ok 17"},
		[2]string{"take", "bad 0"},
		[2]string{"fresh", "ok"},
		[2]string{"=  terms 1 names 1", "ok 17"},
		[2]string{"take", "bad 0"},
	)
}

// J1: what the lines of a script are.
func TestLines(t *testing.T) {
	for _, c := range []struct{ script, want string }{
		{"", ""},
		{"\n", "?\n"},
		{"\n\n", "?\n?\n"},
		{"fresh", "ok\n"},
		{"fresh\n", "ok\n"},
		{"fresh\n\n", "ok\n?\n"},
		{"\nfresh", "?\nok\n"},
		{"fresh\nfresh", "ok\nok\n"},
		{"fresh\n ", "ok\n?\n"},
		{"fresh\r\nfresh", "?\nok\n"},
		{"fresh\x00", "?\n"},
		{"= a\n= b", "ok 2\nok 4\n"},
		{"= a\n= ", "ok 2\nok 3\n"},
		{"= a\n=", "ok 2\n?\n"},
		{"x", "?\n"},
		{"\xff", "?\n"},
		{"\u2028fresh", "?\n"},
		{"fresh\u0085fresh", "?\n"},
		{"fresh\vfresh\ffresh", "?\n"},
	} {
		if s := drive.Play(c.script); s != c.want {
			t.Errorf("%q: %q, not %q", c.script, s, c.want)
		}
	}
}
