// Package history tells who did what, in which order.
package history

import (
	"slices"

	"locklane/api"
)

// Check tells which op is wrong (its place, from 0 on as in any list), and how.
func Check(h []api.Op) (int, error) {
	if len(h) > api.MaxOps {
		return 0, api.ErrFull
	}
	var ended [api.MaxTx + 1]bool
	for i, o := range h {
		if !isOp(o) {
			return i, api.ErrRange
		}
		if ended[o.Tx] {
			return i, api.ErrState
		}
		ended[o.Tx] = ends(o.What)
	}
	return 0, nil
}

// Deals of a history.
func Deals(h []api.Op) ([]int, error) {
	if _, err := Check(h); err != nil {
		return nil, err
	}
	var deals []int
	for tx := 1; tx <= api.MaxTx; tx++ {
		if slices.ContainsFunc(h, isOf(tx)) {
			deals = append(deals, tx)
		}
	}
	return deals, nil
}

// Of a deal. One that may be, but has no op, has none here either.
func Of(h []api.Op, tx int) ([]api.Op, error) {
	if _, err := Check(h); err != nil {
		return nil, err
	}
	if tx < 1 || tx > api.MaxTx {
		return nil, api.ErrRange
	}
	return keep(h, isOf(tx)), nil
}

// Done ops.
func Done(h []api.Op) ([]api.Op, error) {
	if _, err := Check(h); err != nil {
		return nil, err
	}
	var commits [api.MaxTx + 1]bool
	for _, o := range h {
		if o.What == api.Commit {
			commits[o.Tx] = true
		}
	}
	return keep(h, func(o api.Op) bool { return commits[o.Tx] }), nil
}

// isOp tells whether all numbers of an op may be.
func isOp(o api.Op) bool {
	if o.Tx < 1 || o.Tx > api.MaxTx || o.What < api.Read || o.What > api.Abort {
		return false
	}
	if ends(o.What) {
		return o.Item == 0
	}
	return o.Item >= 1 && o.Item <= api.MaxItem
}

// ends tells whether a deal is over with what it does.
func ends(what int) bool {
	return what == api.Commit || what == api.Abort
}

// isOf tells of ops whether they are those of a deal.
func isOf(tx int) func(api.Op) bool {
	return func(o api.Op) bool { return o.Tx == tx }
}

// keep gives those ops that are so, in order, in memory of their own.
func keep(h []api.Op, so func(api.Op) bool) []api.Op {
	var kept []api.Op
	for _, o := range h {
		if so(o) {
			kept = append(kept, o)
		}
	}
	return kept
}
