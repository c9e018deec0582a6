package reach

import (
	"pollarding/api"
	"pollarding/grow"
)

// allIn tells whether set has all names of syms.
func allIn(set []bool, syms []api.Sym) bool {
	for _, sym := range syms {
		if !sym.Term && !set[sym.N] {
			return false
		}
	}
	return true
}

// putNames puts into set all names of syms.
func putNames(set []bool, syms []api.Sym, put grow.Put) {
	for _, sym := range syms {
		if !sym.Term {
			put(set, sym.N)
		}
	}
}

// growBegins grows the names that r's Left begins with, by what is known so far: begins has, of each name, those that it begins with.
func growBegins(begins [][]bool, null []bool, r api.Rule, put grow.Put) {
	for _, sym := range r.Right {
		if sym.Term {
			return
		}
		put(begins[r.Left], sym.N)
		grow.PutAll(begins[r.Left], begins[sym.N], put)
		if !null[sym.N] {
			return
		}
	}
}
