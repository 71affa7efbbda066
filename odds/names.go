package odds

import (
	"locklane/api"
	"locklane/history"
)

// Name of an op: a deal may do the same again, so which of its deal's ops it is (from 0 on) belongs to it.
type Name struct {
	Op  api.Op
	Nth int
}

// Names of a history's ops, by their places: two histories with the same names have the same ops of each deal, in the same order.
func Names(h []api.Op) ([]Name, error) {
	if _, err := history.Check(h); err != nil {
		return nil, err
	}
	return names(h), nil
}

// names of a right history's ops, by their places.
func names(h []api.Op) []Name {
	var had [api.MaxTx + 1]int
	var named []Name
	for _, o := range h {
		named = append(named, Name{o, had[o.Tx]})
		had[o.Tx]++
	}
	return named
}

// find tells for each place of h where in g the op of that name stands, and whether both have just the same names.
func find(h, g []api.Op) ([]int, bool) {
	if len(h) != len(g) {
		return nil, false
	}
	places := make(map[Name]int)
	for at, n := range names(g) {
		places[n] = at
	}
	var there []int
	for _, n := range names(h) {
		at, ok := places[n]
		if !ok {
			return nil, false
		}
		there = append(there, at)
	}
	return there, true
}
