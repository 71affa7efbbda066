package strict

import (
	"slices"

	"locklane/api"
	"locklane/graph"
	"locklane/locks"
)

// lane is how a run stands. Its calls on the table, and on a graph of it, never
// fail: all numbers were checked, and who waits asks for nothing.
type lane struct {
	way     int
	table   *locks.Table
	told    []api.Op
	aborted map[int]int      // how many were so ahead of this one
	waits   map[int]api.Lock // what each deal that waits is to hold
	behind  map[int][]api.Op // what each deal asked since it waits
}

func newLane(way int) *lane {
	return &lane{
		way:     way,
		table:   locks.New(),
		aborted: map[int]int{},
		waits:   map[int]api.Lock{},
		behind:  map[int][]api.Op{},
	}
}

// come: an op is asked for.
func (r *lane) come(o api.Op) {
	switch {
	case r.isAborted(o.Tx):
	case r.isWaiting(o.Tx):
		r.behind[o.Tx] = append(r.behind[o.Tx], o)
	default:
		r.do(o)
	}
}

// do an op of a deal that neither waits nor was aborted.
func (r *lane) do(o api.Op) {
	if o.What == api.Commit || o.What == api.Abort {
		r.tell(o)
		r.free(o.Tx)
		return
	}
	l := lockOf(o)
	if held, _ := r.table.Ask(l); held {
		r.tell(o)
		return
	}
	r.waits[o.Tx] = l
	r.avoid(o.Tx)
}

// avoid that deals wait for each other, as one of them has begun to wait.
func (r *lane) avoid(tx int) {
	switch r.way {
	case api.Detect:
		if r.isInRing(tx) {
			r.abort(tx)
		}
	case api.WaitDie:
		isOlder := func(o int) bool { return o < tx }
		if slices.ContainsFunc(r.waitsFor(tx), isOlder) {
			r.abort(tx)
		}
	case api.WoundWait:
		r.wound(tx)
	}
}

// wound those that are younger than one that waits for them. It is looked anew
// behind each: by its end this one may hold its lock, wait for another one, or
// be aborted itself.
func (r *lane) wound(tx int) {
	isYounger := func(o int) bool { return o > tx }
	for {
		stops := r.waitsFor(tx)
		at := slices.IndexFunc(stops, isYounger)
		if at < 0 {
			return
		}
		r.abort(stops[at])
	}
}

// abort a deal, whatever it asked.
func (r *lane) abort(tx int) {
	ahead := len(r.aborted)
	r.aborted[tx] = ahead
	r.tell(api.Op{Tx: tx, What: api.Abort})
	delete(r.behind, tx)
	r.free(tx)
}

// free a deal's locks, and let those go on that hold theirs by that. None of
// these waits any more, but one whose turn is not yet may be aborted ahead of it.
func (r *lane) free(tx int) {
	came, _ := r.table.Free(tx)
	delete(r.waits, tx)
	for _, l := range came {
		delete(r.waits, l.Tx)
	}
	for _, l := range came {
		if !r.isAborted(l.Tx) {
			r.tell(opOf(l))
			r.goOn(l.Tx)
		}
	}
}

// goOn with what stands behind, one by one: an op may make its deal wait again,
// or be aborted, which leaves nothing behind.
func (r *lane) goOn(tx int) {
	for len(r.behind[tx]) > 0 && !r.isWaiting(tx) {
		o := r.behind[tx][0]
		r.behind[tx] = r.behind[tx][1:]
		r.do(o)
	}
	if len(r.behind[tx]) == 0 {
		delete(r.behind, tx)
	}
}

func (r *lane) tell(o api.Op) { r.told = append(r.told, o) }

func (r *lane) isAborted(tx int) bool {
	_, is := r.aborted[tx]
	return is
}

func (r *lane) isWaiting(tx int) bool {
	_, is := r.waits[tx]
	return is
}

// waitsFor whom, rising; nobody, if it does not wait.
func (r *lane) waitsFor(tx int) []int {
	l, is := r.waits[tx]
	if !is {
		return nil
	}
	deals, _ := r.table.For(l)
	return deals
}

// isInRing: a deal waits for itself, by way of others.
func (r *lane) isInRing(tx int) bool {
	var edges []api.Edge
	for from := 1; from <= api.MaxTx; from++ {
		for _, to := range r.waitsFor(from) {
			edges = append(edges, api.Edge{From: from, To: to})
		}
	}
	is, _ := graph.Reach(edges, tx, tx)
	return is
}

// inOrder: the deals that were aborted.
func (r *lane) inOrder() []int {
	deals := make([]int, len(r.aborted))
	for tx, ahead := range r.aborted {
		deals[ahead] = tx
	}
	return deals
}

// lockOf an op that reads or writes.
func lockOf(o api.Op) api.Lock {
	if o.What == api.Read {
		return api.Lock{Tx: o.Tx, Item: o.Item, Mode: api.Shared}
	}
	return api.Lock{Tx: o.Tx, Item: o.Item, Mode: api.Alone}
}

// opOf a lock: what lockOf made it of.
func opOf(l api.Lock) api.Op {
	if l.Mode == api.Shared {
		return api.Op{Tx: l.Tx, What: api.Read, Item: l.Item}
	}
	return api.Op{Tx: l.Tx, What: api.Write, Item: l.Item}
}
