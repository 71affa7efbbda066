package odds

import "locklane/api"

// name of an op: a deal may do the same again, so which of its deal's ops it is belongs to it.
type name struct {
	op  api.Op
	nth int
}

// names of a right history's ops, by their places.
func names(h []api.Op) []name {
	var had [api.MaxTx + 1]int
	var named []name
	for _, o := range h {
		named = append(named, name{o, had[o.Tx]})
		had[o.Tx]++
	}
	return named
}

// find tells for each place of h where in g the op of that name stands, and whether both have just the same names: the same ops of each deal, in the same order.
func find(h, g []api.Op) ([]int, bool) {
	if len(h) != len(g) {
		return nil, false
	}
	places := make(map[name]int)
	for at, n := range names(g) {
		places[n] = at
	}
	var there []int
	for _, n := range names(h) {
		at, ok := places[n]
		if !ok {
			return nil, false
		}
		there = append(there, at)
	}
	return there, true
}
