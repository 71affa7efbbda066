package view

import (
	"slices"

	"locklane/api"
	"locklane/odds"
)

// writes: of each item the Write that was last; no name, if nobody wrote it.
type writes [api.MaxItem + 1]odds.Name

// sight is what ops see and what they leave: two lists of ops are the same just if this is.
type sight struct {
	from map[odds.Name]odds.Name // what each op reads; all ops stand here, as it matters which there are
	last writes
}

// look at ops.
func look(named []odds.Name) sight {
	from := make(map[odds.Name]odds.Name, len(named))
	last, _ := follow(named, func(n, source odds.Name) bool {
		from[n] = source
		return true
	})
	return sight{from, last}
}

// isOf tells whether ops come to the same sight. It holds op by op against it,
// so that orders that are tried are given up where they first read something else.
func (s sight) isOf(named []odds.Name) bool {
	if len(named) != len(s.from) {
		return false
	}
	last, all := follow(named, func(n, source odds.Name) bool {
		was, ok := s.from[n]
		return ok && was == source
	})
	return all && last == s.last
}

// follow goes over ops as long as what is told is taken: of each op the Write
// that it reads; no name, if nobody wrote, or it is no Read. It gives what was
// written last by then, and whether all was taken.
func follow(named []odds.Name, take func(n, source odds.Name) bool) (writes, bool) {
	var last writes
	for _, n := range named {
		var source odds.Name
		if n.Op.What == api.Read {
			source = last[n.Op.Item]
		}
		if !take(n, source) {
			return last, false
		}
		if n.Op.What == api.Write {
			last[n.Op.Item] = n
		}
	}
	return last, true
}

// firstOrder of deals that are given rising, by numbers, of which it is so; and whether there is one.
func firstOrder(deals []int, isSo func(order []int) bool) ([]int, bool) {
	var order []int
	var grow func() bool
	grow = func() bool {
		if len(order) == len(deals) {
			return isSo(order)
		}
		for _, tx := range deals {
			if slices.Contains(order, tx) {
				continue
			}
			order = append(order, tx)
			if grow() {
				return true
			}
			order = order[:len(order)-1]
		}
		return false
	}
	found := grow()
	return order, found
}
