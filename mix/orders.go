package mix

import (
	"locklane/api"
)

// lanes are the ops of each deal, as they stood; place 0 is nobody's.
type lanes [api.MaxTx + 1][]api.Op

func lanesOf(h []api.Op) lanes {
	var l lanes
	for _, o := range h {
		l[o.Tx] = append(l[o.Tx], o)
	}
	return l
}

// eachOrder of a right history is handed to take, sorted, as long as that wants
// more. The next one is written over it, so who keeps an order copies it.
func eachOrder(h []api.Op, take func(order []api.Op) bool) {
	order := make([]api.Op, 0, len(h))
	var grow func(rest lanes) bool
	grow = func(rest lanes) bool {
		if len(order) == len(h) {
			return take(order)
		}
		for tx, ops := range rest {
			if len(ops) == 0 {
				continue
			}
			order = append(order, ops[0])
			left := rest
			left[tx] = ops[1:]
			if !grow(left) {
				return false
			}
			order = order[:len(order)-1]
		}
		return true
	}
	grow(lanesOf(h))
}
