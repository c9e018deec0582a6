// Package grow lets sets grow, rule by rule, until they are still.
package grow

import "pollarding/api"

// Put puts n into a set, and notices whether the set has grown by it.
type Put func(set []bool, n int)

// UntilStill calls do with each rule, round after round, until a whole round puts nothing new. Sets only grow, so it ends; and where do puts nothing without a reason, they are the least ones.
func UntilStill(rules []api.Rule, do func(r api.Rule, put Put)) {
	grown := true
	put := func(set []bool, n int) {
		if !set[n] {
			set[n] = true
			grown = true
		}
	}
	for grown {
		grown = false
		for _, r := range rules {
			do(r, put)
		}
	}
}

// PutAll puts into set all that from has.
func PutAll(set, from []bool, put Put) {
	for n, has := range from {
		if has {
			put(set, n)
		}
	}
}
