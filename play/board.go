package play

import (
	"locklane/api"
)

// times that a deal's number counts in what it writes.
const times = 7

// board is how things stand while ops are played.
type board struct {
	items [api.MaxItem + 1]int // what each item is
	count [api.MaxTx + 1]int   // how many ops each deal had
	sum   [api.MaxTx + 1]int   // all that each deal has read
	seen  []int                // what was read, in order
}

// play goes on by one op. What is read is below MaxValue, and of few ops: no
// sum of it wraps round, so it is enough to take the rest where it is written.
func (b *board) play(o api.Op) {
	b.count[o.Tx]++
	switch o.What {
	case api.Read:
		b.seen = append(b.seen, b.items[o.Item])
		b.sum[o.Tx] += b.items[o.Item]
	case api.Write:
		b.items[o.Item] = (times*o.Tx + b.count[o.Tx] + b.sum[o.Tx]) % api.MaxValue
	}
}
