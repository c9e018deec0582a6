package step_test

import (
	"testing"

	"pollarding/api"
	"pollarding/step"
)

type doCase struct {
	what  string
	g     api.Grammar
	s     api.Step
	terms int
	names int
	rules string
}

// wantAll asks Do of cases in which nothing is wrong.
func wantAll(t *testing.T, cases []doCase) {
	t.Helper()
	for _, c := range cases {
		h, e := step.Do(c.g, c.s)
		if want := told(spelt(c.terms, c.names, c.rules)); e != api.OK || told(h) != want {
			t.Errorf("%s: %s, the error %v, not %s", c.what, told(h), e, want)
		}
	}
}

func swap(a, b int) api.Step { return api.Step{Op: api.SSwap, A: a, B: b} }

func extract(a, b, c int) api.Step { return api.Step{Op: api.SExtract, A: a, B: b, C: c} }

func inline(a, b int) api.Step { return api.Step{Op: api.SInline, A: a, B: b} }

func left(a int) api.Step { return api.Step{Op: api.SLeft, A: a} }

func prune() api.Step { return api.Step{Op: api.SPrune} }

// mixed has names within names, terms on both sides of them, the same number as a term and as a name, and empty Rights.
func mixed() api.Grammar {
	return spelt(3, 4, "0: 1 t2 2 1; 1: t1 1; 1:; 2: t2 2 t1; 2: 1; 3: 2 t0")
}

// H1, worked out by hand: two names change places, in Left and in Right, and terms do not.
func TestSwap(t *testing.T) {
	swapped := "0: 2 t2 1 2; 2: t1 2; 2:; 1: t2 1 t1; 1: 2; 3: 1 t0"
	wantAll(t, []doCase{
		{"two names", mixed(), swap(1, 2), 3, 4, swapped},
		{"the other way round", mixed(), swap(2, 1), 3, 4, swapped},
		{"the last name", mixed(), swap(3, 2), 3, 4, "0: 1 t2 3 1; 1: t1 1; 1:; 3: t2 3 t1; 3: 1; 2: 3 t0"},
		{"a name with itself", mixed(), swap(2, 2), 3, 4, told(mixed())[3:]},
		{"names without rules", spelt(1, 5, "0: t0 0; 0:"), swap(2, 4), 1, 5, "0: t0 0; 0:"},
		{"no rules", spelt(0, 3, ""), swap(1, 2), 0, 3, ""},
	})
}

// H1, worked out by hand: symbols of a rule get a rule of their own.
func TestExtract(t *testing.T) {
	wantAll(t, []doCase{
		{"all symbols", mixed(), extract(0, 0, 4), 3, 5, "0: 4; 1: t1 1; 1:; 2: t2 2 t1; 2: 1; 3: 2 t0; 4: 1 t2 2 1"},
		{"the first one", mixed(), extract(0, 0, 1), 3, 5, "0: 4 t2 2 1; 1: t1 1; 1:; 2: t2 2 t1; 2: 1; 3: 2 t0; 4: 1"},
		{"the last one", mixed(), extract(0, 3, 4), 3, 5, "0: 1 t2 2 4; 1: t1 1; 1:; 2: t2 2 t1; 2: 1; 3: 2 t0; 4: 1"},
		{"between", mixed(), extract(0, 1, 3), 3, 5, "0: 1 4 1; 1: t1 1; 1:; 2: t2 2 t1; 2: 1; 3: 2 t0; 4: t2 2"},
		{"a term", mixed(), extract(1, 0, 1), 3, 5, "0: 1 t2 2 1; 1: 4 1; 1:; 2: t2 2 t1; 2: 1; 3: 2 t0; 4: t1"},
		{"of the last rule", mixed(), extract(5, 0, 2), 3, 5, "0: 1 t2 2 1; 1: t1 1; 1:; 2: t2 2 t1; 2: 1; 3: 4; 4: 2 t0"},
		{"of one of two rules that are the same", spelt(1, 1, "0: t0; 0: t0"), extract(1, 0, 1), 1, 2, "0: t0; 0: 1; 1: t0"},
	})
}

// H1, worked out by hand: what a name may become comes in its place, in one rule.
func TestInline(t *testing.T) {
	wantAll(t, []doCase{
		{"at the beginning", mixed(), inline(0, 0), 3, 4, "0: t1 1 t2 2 1; 0: t2 2 1; 1: t1 1; 1:; 2: t2 2 t1; 2: 1; 3: 2 t0"},
		{"between", mixed(), inline(0, 2), 3, 4, "0: 1 t2 t2 2 t1 1; 0: 1 t2 1 1; 1: t1 1; 1:; 2: t2 2 t1; 2: 1; 3: 2 t0"},
		{"at the end, and not where the name stands too", mixed(), inline(0, 3), 3, 4, "0: 1 t2 2 t1 1; 0: 1 t2 2; 1: t1 1; 1:; 2: t2 2 t1; 2: 1; 3: 2 t0"},
		{"alone", mixed(), inline(4, 0), 3, 4, "0: 1 t2 2 1; 1: t1 1; 1:; 2: t2 2 t1; 2: t1 1; 2:; 3: 2 t0"},
		{"in the last rule", mixed(), inline(5, 0), 3, 4, "0: 1 t2 2 1; 1: t1 1; 1:; 2: t2 2 t1; 2: 1; 3: t2 2 t1 t0; 3: 1 t0"},
		{"a name of one rule", spelt(2, 2, "0: t0 1 t0; 1: t1"), inline(0, 1), 2, 2, "0: t0 t1 t0; 1: t1"},
		{"a name of no rule", spelt(2, 2, "0: t0; 0: t0 1 t0; 0: t1"), inline(1, 1), 2, 2, "0: t0; 0: t1"},
		{"the name's rules ahead of the rule, and behind it", spelt(3, 2, "1: t0; 0: 1; 1: t1; 0: t2; 1:"), inline(1, 0), 3, 2, "1: t0; 0: t0; 0: t1; 0:; 1: t1; 0: t2; 1:"},
		{"a name that has the Left in its rules", spelt(2, 2, "0: 1 t1; 0:; 1: 0 t0; 1: 1 1"), inline(0, 0), 2, 2, "0: 0 t0 t1; 0: 1 1 t1; 0:; 1: 0 t0; 1: 1 1"},
		{"the name 0", spelt(1, 2, "0: 1; 1: 0 t0; 1:; 0: t0"), inline(1, 0), 1, 2, "0: 1; 1: 1 t0; 1: t0 t0; 1:; 0: t0"},
		{"rules that are the same", spelt(1, 2, "0: 1; 1: t0; 1: t0"), inline(0, 0), 1, 2, "0: t0; 0: t0; 1: t0; 1: t0"},
		{"beside the Left", spelt(1, 2, "0: 0 1 0; 1: t0; 0:"), inline(0, 1), 1, 2, "0: 0 t0 0; 1: t0; 0:"},
	})
}

// H1, worked out by hand: rules that begin with their Left become those of a name more.
func TestLeft(t *testing.T) {
	wantAll(t, []doCase{
		{"the name 0", spelt(2, 1, "0: 0 t0; 0: t1"), left(0), 2, 2, "1: t0 1; 0: t1 1; 1:"},
		{"what ends is nothing", spelt(1, 1, "0: 0 t0; 0:"), left(0), 1, 2, "1: t0 1; 0: 1; 1:"},
		{"what ends comes first", spelt(2, 1, "0: t1; 0: 0 t0"), left(0), 2, 2, "0: t1 1; 1: t0 1; 1:"},
		{"nothing ends it", spelt(1, 1, "0: 0 t0"), left(0), 1, 2, "1: t0 1; 1:"},
		{"the name again behind it", spelt(2, 1, "0: 0 0; 0: 0 t0 0; 0: t1 0; 0: t1"), left(0), 2, 2, "1: 0 1; 1: t0 0 1; 0: t1 0 1; 0: t1 1; 1:"},
		{"of a name among others", spelt(4, 3, "0: 1 t0; 1: 1 t1 2; 2: 2 t2; 1: 2; 2: 1; 2: t3; 1:"), left(1), 4, 4, "0: 1 t0; 3: t1 2 3; 2: 2 t2; 1: 2 3; 2: 1; 2: t3; 1: 3; 3:"},
		{"of the last name", spelt(4, 3, "0: 1 t0; 1: 1 t1 2; 2: 2 t2; 1: 2; 2: 1; 2: t3; 1:"), left(2), 4, 4, "0: 1 t0; 1: 1 t1 2; 3: t2 3; 1: 2; 2: 1 3; 2: t3 3; 1:; 3:"},
		{"a term of the name's number", spelt(2, 2, "1: t1 1; 1: 1 t1; 1: t1; 0: 1"), left(1), 2, 3, "1: t1 1 2; 2: t1 2; 1: t1 2; 0: 1; 2:"},
		{"another name's rule is that name alone", spelt(2, 2, "0: 0 t0; 0: 1; 1: 1; 1: 0"), left(0), 2, 3, "2: t0 2; 0: 1 2; 1: 1; 1: 0; 2:"},
	})
}

// H1, worked out by hand: rules that nothing needs do not stay, and names do.
func TestPrune(t *testing.T) {
	wantAll(t, []doCase{
		{"all are needed", spelt(1, 1, "0: t0 0; 0:"), prune(), 1, 1, "0: t0 0; 0:"},
		{"nothing comes to a name", mixed(), prune(), 3, 4, "0: 1 t2 2 1; 1: t1 1; 1:; 2: t2 2 t1; 2: 1"},
		{"a name does not make", spelt(2, 3, "0: t0; 0: 1 t0; 1: 1 t1; 0: 2; 2: t1"), prune(), 2, 3, "0: t0; 0: 2; 2: t1"},
		{"what only comes beside what does not make", spelt(2, 3, "0: t0; 0: 1 2; 1: 1; 2: t1"), prune(), 2, 3, "0: t0"},
		{"a rule of a name that makes by another", spelt(2, 3, "0: 1; 1: t0; 1: t1 2; 2: 2 t0"), prune(), 2, 3, "0: 1; 1: t0"},
		{"a name without rules", spelt(2, 3, "0: t0; 0: t1 2; 1: 2"), prune(), 2, 3, "0: t0"},
		{"names that only come to one another", spelt(2, 4, "2: 3; 3: 2; 3: t0; 0: t1; 2: 0"), prune(), 2, 4, "0: t1"},
		{"the name 0 does not make", spelt(2, 2, "0: t0 0; 1: t0; 0: 1 0"), prune(), 2, 2, ""},
		{"no rules", spelt(8, 12, ""), prune(), 8, 12, ""},
		{"the name 0 in other names' rules", spelt(1, 2, "0: 1; 1: 0; 1: t0"), prune(), 1, 2, "0: 1; 1: 0; 1: t0"},
		{"the same rule twice", spelt(1, 2, "0: t0; 1: t0; 0: t0"), prune(), 1, 2, "0: t0; 0: t0"},
	})
}
