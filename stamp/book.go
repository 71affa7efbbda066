package stamp

import (
	"locklane/api"
)

// marks of an item: the greatest numbers of deals that read it, and that wrote it; 0, if nobody did.
type marks struct{ read, wrote int }

// book is how a run stands.
type book struct {
	leave   bool
	items   [api.MaxItem + 1]marks
	told    []api.Op
	aborted map[int]int // how many were so ahead of this one
}

func newBook(leave bool) *book {
	return &book{leave: leave, aborted: map[int]int{}}
}

// come: an op is asked for.
func (b *book) come(o api.Op) {
	if _, is := b.aborted[o.Tx]; is {
		return
	}
	switch o.What {
	case api.Read:
		b.read(o)
	case api.Write:
		b.write(o)
	default:
		b.tell(o)
	}
}

// read, unless it would see what is to come behind its deal. Only what is told
// leaves a mark: who is aborted by its Read has not read.
func (b *book) read(o api.Op) {
	m := &b.items[o.Item]
	if m.wrote > o.Tx {
		b.abort(o.Tx)
		return
	}
	m.read = max(m.read, o.Tx)
	b.tell(o)
}

// write, unless one behind its deal should have read it. What one behind its
// deal wrote over may be left out, as nobody would read it any more.
func (b *book) write(o api.Op) {
	m := &b.items[o.Item]
	switch {
	case m.read > o.Tx:
		b.abort(o.Tx)
	case m.wrote <= o.Tx:
		m.wrote = o.Tx
		b.tell(o)
	case !b.leave:
		b.abort(o.Tx)
	}
}

// abort a deal. Its marks stay: they stand in the way of others as before.
func (b *book) abort(tx int) {
	ahead := len(b.aborted)
	b.aborted[tx] = ahead
	b.tell(api.Op{Tx: tx, What: api.Abort})
}

func (b *book) tell(o api.Op) { b.told = append(b.told, o) }

// inOrder: the deals that were aborted.
func (b *book) inOrder() []int {
	deals := make([]int, len(b.aborted))
	for tx, ahead := range b.aborted {
		deals[ahead] = tx
	}
	return deals
}
