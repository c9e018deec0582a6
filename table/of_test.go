package table_test

import "testing"

// F1 to F3: the chapter's example, and the grammar of chapter 1.
func TestExamples(t *testing.T) {
	wantTables(t, []tableCase{
		{"the chapter's", with(1, 1, rule(0, term(0))), "t0>1 n0>2 | e:0 | e!", 0},
		{"of chapter 1", with(1, 1, rule(0, term(0), name(0)), rule(0)),
			"t0>1 e:1 n0>2 | t0>1 e:1 n0>3 | e! | e:0", 0},
	})
}

// F1: how states are numbered.
func TestNumbers(t *testing.T) {
	wantTables(t, []tableCase{
		{"terms ahead of names, by number, whatever the rules' order", with(3, 3,
			rule(0, name(2), term(1)), rule(0, name(1), term(0)), rule(2, term(2)), rule(1, term(1)), rule(0, term(0)),
		), "t0>1 t1>2 t2>3 n0>4 n1>5 n2>6 | e:4 | t0:3 | t1:2 | e! | t0>7 | t1>8 | e:1 | e:0", 0},
		{"those of an earlier state ahead of those of a later one", with(2, 1,
			rule(0, term(0), term(0), term(0)), rule(0, term(1), term(1)),
		), "t0>1 t1>2 n0>3 | t0>4 | t1>5 | e! | t0>6 | e:1 | e:0", 0},
		{"the other way round", with(2, 1,
			rule(0, term(0), term(0)), rule(0, term(1), term(1), term(1)),
		), "t0>1 t1>2 n0>3 | t0>4 | t1>5 | e! | e:0 | t1>6 | e:1", 0},
		{"states that differ only in how much is read", with(1, 1,
			rule(0, term(0), term(0), term(0)),
		), "t0>1 n0>2 | t0>3 | e! | t0>4 | e:0", 0},
		{"states of which one has all items of the other, and more", with(2, 2,
			rule(0, term(0), name(1)), rule(0, term(1), name(1)), rule(0, term(1), term(0), term(0)), rule(1, term(0)),
		), "t0>1 t1>2 n0>3 | t0>4 n1>5 | t0>6 n1>7 | e! | e:3 | e:0 | t0>8 e:3 | e:1 | e:2", 0},
		{"a state that is come to by several ways is one", with(5, 2,
			rule(0, term(0), name(1), term(1)), rule(0, term(2), name(1), term(3)), rule(1, term(4)),
		), "t0>1 t2>2 n0>3 | t4>4 n1>5 | t4>4 n1>6 | e! | t1:2 t3:2 | t1>7 | t3>8 | e:0 | e:1", 0},
		{"and so, if its items were come to in another order", with(3, 3,
			rule(0, term(0), name(1)), rule(0, term(0), name(2)), rule(0, term(1), name(2)), rule(0, term(1), name(1)),
			rule(1, term(2)), rule(2, term(2)),
		), "t0>1 t1>2 n0>3 | t2>4 n1>5 n2>6 | t2>4 n1>7 n2>8 | e! | e:4,5 | e:0 | e:1 | e:3 | e:2", 1},
		{"a name that is next several times closes once", with(2, 2,
			rule(0, name(1), term(0)), rule(0, name(1), term(1)), rule(1, term(1)),
		), "t1>1 n0>2 n1>3 | t0:2 t1:2 | e! | t0>4 t1>5 | e:0 | e:1", 0},
		{"a term is no name: the same numbers in both", with(3, 3,
			rule(0, term(1), name(2)), rule(1, term(0)), rule(2, term(2)),
		), "t1>1 n0>2 | t2>3 n2>4 | e! | e:2 | e:0", 0},
	})
}

// F1 to F3: sums, products and brackets; stars, which what may follow alone would not tell apart; and a state that is one though lookaheads differ.
func TestWholeTables(t *testing.T) {
	wantTables(t, []tableCase{
		{"sums", with(5, 3,
			rule(0, name(0), term(0), name(1)), rule(0, name(1)),
			rule(1, name(1), term(1), name(2)), rule(1, name(2)),
			rule(2, term(2), name(0), term(3)), rule(2, term(4)),
		), "t2>1 t4>2 n0>3 n1>4 n2>5 | t2>1 t4>2 n0>6 n1>4 n2>5 | t0:5 t1:5 t3:5 e:5 | t0>7 e! | t0:1 t1>8 t3:1 e:1 | t0:3 t1:3 t3:3 e:3" +
			" | t0>7 t3>9 | t2>1 t4>2 n1>10 n2>5 | t2>1 t4>2 n2>11 | t0:4 t1:4 t3:4 e:4 | t0:0 t1>8 t3:0 e:0 | t0:2 t1:2 t3:2 e:2", 0},
		{"stars", with(3, 3,
			rule(0, name(1), term(0), name(2)), rule(0, name(2)), rule(1, term(1), name(2)), rule(1, term(2)), rule(2, name(1)),
		), "t1>1 t2>2 n0>3 n1>4 n2>5 | t1>1 t2>2 n1>6 n2>7 | t0:3 e:3 | e! | t0>8 e:4 | e:1 | t0:4 e:4 | t0:2 e:2 | t1>1 t2>2 n1>6 n2>9 | e:0", 0},
		{"one state, with what both ways to it have", with(5, 3,
			rule(0, term(0), name(1), term(3)), rule(0, term(1), name(2), term(3)),
			rule(0, term(0), name(2), term(4)), rule(0, term(1), name(1), term(4)),
			rule(1, term(2)), rule(2, term(2)),
		), "t0>1 t1>2 n0>3 | t2>4 n1>5 n2>6 | t2>4 n1>7 n2>8 | e! | t3:4,5 t4:4,5 | t3>9 | t4>10 | t4>11 | t3>12 | e:0 | e:2 | e:3 | e:1", 2},
	})
}

// F1 to F3: names below themselves, at the left, at the right and between; the rule above is read in a state that has other items too.
func TestBelowThemselves(t *testing.T) {
	wantTables(t, []tableCase{
		{"at the left", with(2, 1, rule(0, name(0), term(0)), rule(0, term(1))),
			"t1>1 n0>2 | t0:1 e:1 | t0>3 e! | t0:0 e:0", 0},
		{"at the left, or nothing", with(1, 1, rule(0, name(0), term(0)), rule(0)),
			"t0:1 e:1 n0>1 | t0>2 e! | t0:0 e:0", 0},
		{"at the right", with(2, 1, rule(0, term(0), name(0)), rule(0, term(1))),
			"t0>1 t1>2 n0>3 | t0>1 t1>2 n0>4 | e:1 | e! | e:0", 0},
		{"between", with(2, 1, rule(0, term(0), name(0), term(1)), rule(0)),
			"t0>1 e:1 n0>2 | t0>1 t1:1 n0>3 | e! | t1>4 | t1:0 e:0", 0},
		{"at both ends", with(1, 1, rule(0, name(0), name(0)), rule(0, term(0))),
			"t0>1 n0>2 | t0:1 e:1 | t0>1 e! n0>3 | t0>1 t0:0 e:0 n0>3", 1},
		{"at the left behind what may be nothing", with(2, 2, rule(0, name(1), name(0), term(0)), rule(0, term(1)), rule(1)),
			"t1>1 t1:2 n0>2 n1>3 | t0:1 e:1 | e! | t1>1 t1:2 n0>4 n1>3 | t0>5 | t0:0 e:0", 2},
	})
}

// F1 to F3: names that become themselves, or one another.
func TestCycles(t *testing.T) {
	wantTables(t, []tableCase{
		{"itself", with(1, 1, rule(0, name(0)), rule(0, term(0))), "t0>1 n0>2 | e:1 | e:0 e!", 1},
		{"itself, and nothing else", with(1, 1, rule(0, name(0))), "n0>1 | e:0 e!", 1},
		{"itself, or nothing", with(0, 1, rule(0, name(0)), rule(0)), "e:1 n0>1 | e:0 e!", 1},
		{"by way of another", with(1, 2, rule(0, name(1)), rule(1, name(0)), rule(1, term(0))),
			"t0>1 n0>2 n1>3 | e:2 | e:1 e! | e:0", 1},
		{"not of the name 0", with(2, 2, rule(0, name(1), term(0)), rule(1, name(1)), rule(1, term(1))),
			"t1>1 n0>2 n1>3 | t0:2 | e! | t0>4 t0:1 | e:0", 1},
		{"what one of them has ahead, all have", with(3, 3,
			rule(0, name(1), term(0)), rule(1, name(2)), rule(2, name(1)), rule(2, term(2)), rule(0, name(2), term(1)),
		), "t2>1 n0>2 n1>3 n2>4 | t0:3 t1:3 | e! | t0>5 t0:2 t1:2 | t0:1 t1>6 t1:1 | e:0 | e:4", 2},
	})
}

// F2: behind names that may be nothing; at the end of a Right, and several in a row.
func TestBehindNothing(t *testing.T) {
	wantTables(t, []tableCase{
		{"all of a Right", with(3, 4,
			rule(0, name(1), name(2), name(3)), rule(1, term(0)), rule(1), rule(2, term(1)), rule(2), rule(3, term(2)), rule(3),
		), "t0>1 t1:2 t2:2 e:2 n0>2 n1>3 | t1:1 t2:1 e:1 | e! | t1>4 t2:4 e:4 n2>5 | t2:3 e:3 | t2>6 e:6 n3>7 | e:5 | e:0", 0},
		{"at the end, with a term behind what it closes", with(4, 4,
			rule(0, name(1), term(0)), rule(1, term(1), name(2), name(3)), rule(2, term(2)), rule(2), rule(3, term(3)), rule(3),
		), "t1>1 n0>2 n1>3 | t0:3 t2>4 t3:3 n2>5 | e! | t0>6 | t0:2 t3:2 | t0:5 t3>7 n3>8 | e:0 | t0:4 | t0:1", 0},
		{"a term ends what may begin what is behind", with(3, 3,
			rule(0, name(1), name(2), term(0), name(2)), rule(1), rule(2, term(1)), rule(2),
		), "t0:1 t1:1 n0>1 n1>2 | e! | t0:3 t1>3 n2>4 | t0:2 e:2 | t0>5 | t1>3 e:3 n2>6 | e:0", 0},
		{"a name that is never nothing ends it too", with(3, 3,
			rule(0, name(1), name(2), name(1), term(2)), rule(1, term(0)), rule(1), rule(2, term(1)),
		), "t0>1 t1:2 n0>2 n1>3 | t1:1 t2:1 | e! | t1>4 n2>5 | t0:3 t2:3 | t0>1 t2:2 n1>6 | t2>7 | e:0", 0},
		{"the same rule, that is nothing, in several states", with(4, 2,
			rule(0, term(0), name(1), term(1)), rule(0, term(2), name(1), term(3)), rule(1),
		), "t0>1 t2>2 n0>3 | t1:2 n1>4 | t3:2 n1>5 | e! | t1>6 | t3>7 | e:0 | e:1", 0},
		{"nothing twice in a row", with(2, 2, rule(0, name(1), name(1), term(0)), rule(1)),
			"t0:1 n0>1 n1>2 | e! | t0:1 n1>3 | t0>4 | e:0", 0},
	})
}

// F2: lookaheads come by way of other states, of later ones to earlier ones too; and what nothing comes to gives none.
func TestByWayOfStates(t *testing.T) {
	wantTables(t, []tableCase{
		{"through several states, by the end of each", with(4, 3,
			rule(0, term(0), name(1)), rule(1, term(1), name(2)), rule(2, term(2)),
		), "t0>1 n0>2 | t1>3 n1>4 | e! | t2>5 n2>6 | e:0 | e:2 | e:1", 0},
		{"and with a term where it begins", with(4, 4,
			rule(0, name(3), term(3)), rule(3, term(0), name(1)), rule(1, term(1), name(2)), rule(2, term(2)),
		), "t0>1 n0>2 n3>3 | t1>4 n1>5 | e! | t3>6 | t2>7 n2>8 | t3:1 | e:0 | t3:3 | t3:2", 0},
		{"of a later state to an earlier one", with(3, 2,
			rule(0, term(0), name(1)), rule(1, term(1), name(1), term(2)), rule(1, term(1)),
		), "t0>1 n0>2 | t1>3 n1>4 | e! | t1>3 t2:2 e:2 n1>5 | e:0 | t2>6 | t2:1 e:1", 0},
		{"what nothing comes to gives none", with(3, 3,
			rule(0, term(0)), rule(1, name(0), term(1)), rule(2, term(2), name(0), name(2)),
		), "t0>1 n0>2 | e:0 | e!", 0},
	})
}

// F1 and F2: names that have no derivation. Where nothing may begin what is behind, there are no lookaheads; and what is further below may have some again.
func TestNoDerivation(t *testing.T) {
	wantTables(t, []tableCase{
		{"a name without rules", with(1, 2, rule(0, name(1), term(0)), rule(0, term(0))),
			"t0>1 n0>2 n1>3 | e:1 | e! | t0>4 | e:0", 0},
		{"a name that never ends", with(1, 2, rule(0, name(1)), rule(1, term(0), name(1))),
			"t0>1 n0>2 n1>3 | t0>1 n1>4 | e! | e:0 | e:1", 0},
		{"the name 0 never ends", with(1, 1, rule(0, name(0), term(0))),
			"n0>1 | t0>2 e! | t0:0 e:0", 0},
		{"no lookaheads", with(2, 3, rule(0, name(1), name(2)), rule(1, term(0)), rule(1)),
			"t0>1 n0>2 n1>3 | - | e! | n2>4 | e:0", 0},
		{"no lookaheads, and some below", with(2, 4, rule(0, name(1), name(2)), rule(1, name(3), term(0)), rule(3, term(1))),
			"t1>1 n0>2 n1>3 n3>4 | t0:2 | e! | n2>5 | t0>6 | e:0 | -", 0},
		{"no lookaheads, and some in a state behind it", with(3, 4,
			rule(0, name(1), name(2)), rule(1, term(0), name(3), term(1)), rule(3, term(2)),
		), "t0>1 n0>2 n1>3 | t2>4 n3>5 | e! | n2>6 | t1:2 | t1>7 | e:0 | -", 0},
		{"a name that never ends may begin what is behind", with(2, 3,
			rule(0, name(1), name(2)), rule(1), rule(2, term(1), name(2)),
		), "t1:1 n0>1 n1>2 | e! | t1>3 n2>4 | t1>3 n2>5 | e:0 | e:2", 0},
	})
}

// F1 to F3: grammars without rules, without terms; rules with nothing in Right, and the same rule twice and more.
func TestLittle(t *testing.T) {
	wantTables(t, []tableCase{
		{"no rules, no terms", with(0, 1), "n0>1 | e!", 0},
		{"no rules", with(3, 4), "n0>1 | e!", 0},
		{"no rules of the name 0", with(1, 2, rule(1, term(0))), "n0>1 | e!", 0},
		{"nothing in Right", with(2, 1, rule(0)), "e:0 n0>1 | e!", 0},
		{"nothing in Right, no terms", with(0, 1, rule(0)), "e:0 n0>1 | e!", 0},
		{"nothing in Right, twice", with(1, 1, rule(0), rule(0)), "e:0,1 n0>1 | e!", 1},
		{"nothing in Right, by way of another", with(0, 2, rule(0, name(1), name(1)), rule(1)),
			"e:1 n0>1 n1>2 | e! | e:1 n1>3 | e:0", 0},
		{"the same rule twice", with(1, 1, rule(0, term(0)), rule(0, term(0))), "t0>1 n0>2 | e:0,1 | e!", 1},
		{"the same rule three times, and another between", with(2, 1,
			rule(0, term(0), term(1)), rule(0, term(0)), rule(0, term(0), term(1)), rule(0, term(0), term(1)),
		), "t0>1 n0>2 | t1>3 e:1 | e! | e:0,2,3", 1},
		{"the same Right of several names", with(1, 3,
			rule(0, name(2)), rule(0, name(1)), rule(2, term(0)), rule(1, term(0)),
		), "t0>1 n0>2 n1>3 n2>4 | e:2,3 | e! | e:1 | e:0", 1},
		{"a rule as the rule above", with(1, 2, rule(1, name(0)), rule(0, term(0))), "t0>1 n0>2 | e:1 | e!", 0},
	})
}

// F3: cells that say several things; and F4: each of them is one clash.
func TestCellsThatClash(t *testing.T) {
	wantTables(t, []tableCase{
		{"a Shift and a rule", with(2, 2, rule(0, name(1), term(0)), rule(0, term(0), term(1)), rule(1)),
			"t0>1 t0:2 n0>2 n1>3 | t1>4 | e! | t0>5 | e:1 | e:0", 1},
		{"a Shift and two rules", with(1, 3,
			rule(0, name(2), term(0)), rule(0, name(1), term(0)), rule(0, term(0)), rule(1), rule(2),
		), "t0>1 t0:3,4 n0>2 n1>3 n2>4 | e:2 | e! | t0>5 | t0>6 | e:1 | e:0", 1},
		{"the End and two rules", with(1, 1, rule(0, name(0)), rule(0, name(0)), rule(0, term(0))),
			"t0>1 n0>2 | e:2 | e:0,1 e!", 1},
		{"several cells of one state, and of several", with(2, 2,
			rule(0, name(1), term(0)), rule(0, name(1), term(1)), rule(0, name(1)), rule(1), rule(1), rule(1, term(1)), rule(1, term(1)),
		), "t0:3,4 t1>1 t1:3,4 e:3,4 n0>2 n1>3 | t0:5,6 t1:5,6 e:5,6 | e! | t0>4 t1>5 e:2 | e:0 | e:1", 6},
		{"a Shift beside a rule with another term ahead is none", with(2, 2, rule(0, name(1), term(1)), rule(0, term(0)), rule(1)),
			"t0>1 t1:2 n0>2 n1>3 | e:1 | e! | t1>4 | e:0", 0},
	})
}
