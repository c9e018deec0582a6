package drive_test

import (
	"slices"
	"strconv"
	"strings"
	"testing"

	"pollarding/api"
	"pollarding/drive"
	"pollarding/text"
)

// The grammars that scripts take.
const (
	// chapterText is the grammar of chapter 1.
	chapterText = "terms 1 names 1\nn0: t0 n0\nn0:\n"
	// namesText has names that become nothing, that never end, and that nothing comes to.
	namesText = "terms 3 names 4\nn0: n1 t0 n2\nn1:\nn1: t1\nn2: t2 n2\nn3:\n"
	// clashText has two derivations of the same tokens.
	clashText = "terms 2 names 1\nn0: n0 n0\nn0: t0\n"
	// pairText has pairs of terms within one another.
	pairText = "terms 3 names 2\nn0: n1\nn1: t0 n1 t1\nn1:\n"
	// lastText has names that begin with themselves.
	lastText = "terms 3 names 2\nn0: n0 t0 n1\nn0: n1\nn1: t1\nn1: n1 t2\n"
)

// taking is a script that takes a text, and how many answers it has.
func taking(s string) (script string, answers int) {
	script = "fresh\n"
	for line := range strings.Lines(s) {
		script += "= " + line
	}
	script += "take\n"
	return script, strings.Count(script, "\n")
}

// lines joins lines, each with its byte 10.
func lines(each ...string) string {
	var out strings.Builder
	for _, l := range each {
		out.WriteString(l + "\n")
	}
	return out.String()
}

// answers plays a script, and answers its answers; it asks that each of them has its byte 10, words with one blank between, and nothing else.
func answers(t *testing.T, script string) []string {
	t.Helper()
	s := drive.Play(script)
	if s == "" {
		return nil
	}
	out := strings.Split(s, "\n")
	if out[len(out)-1] != "" {
		t.Fatalf("%q: the last answer is no line: %q", script, s)
	}
	out = out[:len(out)-1]
	for _, a := range out {
		if a == "" || strings.Join(strings.Fields(a), " ") != a {
			t.Fatalf("%q: no answer of words with one blank between: %q", script, a)
		}
	}
	return out
}

// wantPlay asks for the answers to lines that are played behind one another.
func wantPlay(t *testing.T, what string, pairs ...[2]string) {
	t.Helper()
	var script []string
	for _, p := range pairs {
		script = append(script, p[0])
	}
	got := answers(t, lines(script...))
	if len(got) != len(pairs) {
		t.Fatalf("%s: %d answers to %d lines: %q", what, len(got), len(pairs), got)
	}
	for i, p := range pairs {
		if got[i] != p[1] {
			t.Errorf("%s: the line %d, %q: %q, not %q", what, i, p[0], got[i], p[1])
		}
	}
}

// wantOf asks for the answers to lines, where the grammar is that of a text.
func wantOf(t *testing.T, what, s string, pairs ...[2]string) {
	t.Helper()
	script, ahead := taking(s)
	for _, p := range pairs {
		script += p[0] + "\n"
	}
	got := answers(t, script)
	if len(got) != ahead+len(pairs) || got[ahead-1] != "ok "+strconv.Itoa(strings.Count(s, "\n")-1) {
		t.Fatalf("%s: not taken, or not an answer to each line: %q", what, got)
	}
	for i, p := range pairs {
		if got[ahead+i] != p[1] {
			t.Errorf("%s: the line %d, %q: %q, not %q", what, i, p[0], got[ahead+i], p[1])
		}
	}
}

// printed is the text of a grammar that may be.
func printed(t *testing.T, g api.Grammar) string {
	t.Helper()
	s, e := text.Print(g)
	if e != api.OK {
		t.Fatalf("no text of %v", g)
	}
	return s
}

// repeat answers a word, and so many words behind it.
func repeat(word string, n int, behind string) string {
	return strings.Join(append([]string{word}, slices.Repeat([]string{behind}, n)...), " ")
}

// numbers answers a function that answers numbers below n, the same ones each time.
func numbers() func(n int) int {
	state := uint32(1)
	return func(n int) int {
		state = state*1664525 + 1013904223
		return int(state>>16) % n
	}
}

// smallText is the text of a grammar by numbers.
func smallText(below func(n int) int) string {
	terms, names := below(4), 1+below(4)
	out := "terms " + strconv.Itoa(terms) + " names " + strconv.Itoa(names) + "\n"
	for range below(9) {
		out += "n" + strconv.Itoa(below(names)) + ":"
		for range below(4) {
			if below(2) == 0 && terms > 0 {
				out += " t" + strconv.Itoa(below(terms))
			} else {
				out += " n" + strconv.Itoa(below(names))
			}
		}
		out += "\n"
	}
	return out
}
