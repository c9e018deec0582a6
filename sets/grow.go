package sets

import "pollarding/api"

// putter puts n into a set, and notices whether the set has grown by it.
type putter func(set []bool, n int)

// untilStill calls round until a whole round puts nothing new. Sets only grow, so it ends; and nothing is put without a reason, so they are the least ones.
func untilStill(round func(put putter)) {
	grown := true
	put := func(set []bool, n int) {
		if !set[n] {
			set[n] = true
			grown = true
		}
	}
	for grown {
		grown = false
		round(put)
	}
}

// growAhead grows what r's Left may begin with, and whether it is Null, by what is known so far.
func growAhead(s api.Sets, r api.Rule, put putter) {
	if putFirst(s, s.First[r.Left], r.Right, put) {
		put(s.Null, r.Left)
	}
}

// growBehind grows what may stand behind each name in r's Right, by what is known so far.
func growBehind(s api.Sets, r api.Rule, put putter) {
	for i, sym := range r.Right {
		if sym.Term {
			continue
		}
		follow := s.Follow[sym.N]
		if putFirst(s, follow, r.Right[i+1:], put) {
			putAll(follow, s.Follow[r.Left], put)
		}
	}
}

// putFirst puts into set what syms may begin with, and tells whether all of them are names that are Null.
func putFirst(s api.Sets, set []bool, syms []api.Sym, put putter) bool {
	for _, sym := range syms {
		if sym.Term {
			put(set, sym.N)
			return false
		}
		putAll(set, s.First[sym.N], put)
		if !s.Null[sym.N] {
			return false
		}
	}
	return true
}

// putAll puts into set all that from has.
func putAll(set, from []bool, put putter) {
	for n, has := range from {
		if has {
			put(set, n)
		}
	}
}
