package drive_test

import (
	"strings"
	"testing"

	"pollarding/drive"
)

// checkBeginnings asks that the answer to each beginning of a script that ends with a byte 10 is what the answer to the script begins with, with an answer to each of its lines, up to 60.
func checkBeginnings(t *testing.T, script string) {
	t.Helper()
	whole := drive.Play(script)
	for i := range len(script) + 1 {
		if i > 0 && script[i-1] != '\n' {
			continue
		}
		part := drive.Play(script[:i])
		if !strings.HasPrefix(whole, part) {
			t.Fatalf("%q: %q; but its beginning %q: %q", script, whole, script[:i], part)
		}
		if n := min(60, strings.Count(script[:i], "\n")); strings.Count(part, "\n") != n {
			t.Fatalf("%q: not %d answers: %q", script[:i], n, part)
		}
	}
}

// J3: of many scripts, among them such as have more than 60 lines.
func TestBeginnings(t *testing.T) {
	below := numbers()
	long := 0
	for range 400 {
		script := anyScript(below)
		checkBeginnings(t, script)
		if strings.Count(script, "\n") > 60 {
			long++
		}
	}
	if long < 20 {
		t.Error("too few long scripts:", long)
	}
	checkBeginnings(t, "")
	checkBeginnings(t, strings.Repeat("\n", 70))
	checkBeginnings(t, "take")
}

// J3: whatever stands behind a beginning, its answers stay, also if what is behind would change text and grammar.
func TestBehind(t *testing.T) {
	begin, _ := taking(lastText)
	begin += lines("sets", "parse 1 0 1", "show")
	want := drive.Play(begin)
	for _, behind := range append([]string{"fresh", "take", "= x", "= x\ntake", "step 4 0 0 0\nshow", "\n\n\n", "\xff", strings.Repeat("fresh\n", 100)}, wrong...) {
		if got := drive.Play(begin + behind); !strings.HasPrefix(got, want) {
			t.Errorf("with %q behind: %q", behind, got)
		}
	}
}
