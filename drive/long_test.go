package drive_test

import (
	"strconv"
	"strings"
	"sync"
	"testing"

	"pollarding/drive"
)

// P1: long lines and long scripts of all kinds end.
func TestLong(t *testing.T) {
	const long = 1 << 20
	taken, ahead := taking(chapterText)
	for _, c := range []struct{ what, script, want string }{
		{"bytes", "= " + strings.Repeat("x", long), "ok " + strconv.Itoa(long+1)},
		{"blanks", strings.Repeat(" ", long), "?"},
		{"no UTF-8", strings.Repeat("\xff", long), "?"},
		{"tokens", "has" + strings.Repeat(" 0", long), "bad 1"},
		{"tokens that are no terms", "has" + strings.Repeat(" 999999", long), "bad 1"},
		{"tokens to be parsed", "parse" + strings.Repeat(" 0", long), "bad 1"},
		{"tokens, and one that is none", "parse" + strings.Repeat(" 0", long) + " x", "?"},
		{"tokens, and a blank", "parse" + strings.Repeat(" 0", long) + " ", "?"},
		{"numbers of a step", "step" + strings.Repeat(" 1", long), "?"},
		{"digits", "has " + strings.Repeat("1", long), "?"},
		{"zeros", "has " + strings.Repeat("0", long), "?"},
		{"digits of a step", "step 4 0 0 " + strings.Repeat("9", long), "?"},
		{"no word", strings.Repeat(" 0", long), "?"},
		{"words", strings.Repeat("has ", long), "?"},
	} {
		for _, end := range []string{"", "\n"} {
			got := answers(t, taken+c.script+end)
			if len(got) != ahead+1 || got[ahead] != strings.Replace(c.want, strconv.Itoa(long+1), strconv.Itoa(long+1+len(chapterText)), 1) {
				t.Errorf("%s: %d answers, the last one %q, not %q", c.what, len(got), got[len(got)-1], c.want)
			}
		}
	}
	if got := answers(t, strings.Repeat("\n", long)); len(got) != 60 {
		t.Error(len(got), "answers to very many empty lines")
	}
	if got := answers(t, strings.Repeat("= "+strings.Repeat("y", long-1)+"\n", 61)); len(got) != 60 || got[59] != "ok "+strconv.Itoa(60*long) {
		t.Errorf("a long text: %q", got)
	}
}

// P1: scripts of any bytes have an answer to each line, and no panic.
func TestAnyBytes(t *testing.T) {
	below := numbers()
	for range 3000 {
		script := make([]byte, below(200))
		for i := range script {
			script[i] = byte(below(256))
			if below(4) == 0 {
				script[i] = "\n =0 ht"[below(7)]
			}
		}
		checkWords(t, string(script))
		checkBeginnings(t, string(script))
	}
}

// P3: the same script has the same answer, whatever was played between, or is played at the same time: nothing is kept.
func TestTheSameAgain(t *testing.T) {
	below := numbers()
	var scripts, want []string
	for range 100 {
		scripts = append(scripts, anyScript(below))
		want = append(want, drive.Play(scripts[len(scripts)-1]))
	}
	var group sync.WaitGroup
	for range 4 {
		group.Go(func() {
			for i, s := range scripts {
				if got := drive.Play(s); got != want[i] {
					t.Errorf("%q: %q, and then %q", s, want[i], got)
				}
			}
		})
	}
	group.Wait()
	if got := drive.Play("take\nsets\n= a\n"); got != "bad 0\nnone\nok 2\n" {
		t.Errorf("something is kept from script to script: %q", got)
	}
}
