package sets

import (
	"pollarding/api"
	"pollarding/grow"
)

// growAhead grows what r's Left may begin with, and whether it is Null, by what is known so far.
func growAhead(s api.Sets, r api.Rule, put grow.Put) {
	if putFirst(s, s.First[r.Left], r.Right, put) {
		put(s.Null, r.Left)
	}
}

// growBehind grows what may stand behind each name in r's Right, by what is known so far.
func growBehind(s api.Sets, r api.Rule, put grow.Put) {
	for i, sym := range r.Right {
		if sym.Term {
			continue
		}
		follow := s.Follow[sym.N]
		if putFirst(s, follow, r.Right[i+1:], put) {
			grow.PutAll(follow, s.Follow[r.Left], put)
		}
	}
}

// putFirst puts into set what syms may begin with, and tells whether all of them are names that are Null.
func putFirst(s api.Sets, set []bool, syms []api.Sym, put grow.Put) bool {
	for _, sym := range syms {
		if sym.Term {
			put(set, sym.N)
			return false
		}
		grow.PutAll(set, s.First[sym.N], put)
		if !s.Null[sym.N] {
			return false
		}
	}
	return true
}
