package grow_test

import (
	"slices"
	"testing"

	"pollarding/api"
	"pollarding/grow"
)

// Each rule is looked at in order, and a last round, that puts nothing new, ends it.
func TestRounds(t *testing.T) {
	rules := []api.Rule{{Left: 0}, {Left: 1}, {Left: 2}}
	set := make([]bool, 4)
	var looked []int
	grow.UntilStill(rules, func(r api.Rule, put grow.Put) {
		looked = append(looked, r.Left)
		if set[r.Left+1] {
			put(set, r.Left)
		}
		put(set, 3)
	})
	want := []int{0, 1, 2, 0, 1, 2, 0, 1, 2, 0, 1, 2}
	if !slices.Equal(looked, want) || slices.Contains(set, false) {
		t.Error(looked, set)
	}
}

// Without rules, and where nothing is put, it ends at once.
func TestStillAtOnce(t *testing.T) {
	grow.UntilStill(nil, func(api.Rule, grow.Put) { t.Error("a rule that is not there") })
	calls := 0
	grow.UntilStill([]api.Rule{{}, {}}, func(api.Rule, grow.Put) { calls++ })
	if calls != 2 {
		t.Error(calls)
	}
}

func TestPutAll(t *testing.T) {
	var put []int
	note := func(_ []bool, n int) { put = append(put, n) }
	grow.PutAll(make([]bool, 4), []bool{false, true, false, true}, note)
	if !slices.Equal(put, []int{1, 3}) {
		t.Error(put)
	}
}
