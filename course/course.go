// Package course goes over ops of deals whose Writes count when they commit, by rules that are handed in.
package course

import (
	"slices"

	"locklane/api"
	"locklane/history"
)

// Rules of a run; both are to be set.
type Rules struct {
	Sees  func(c *Course, tx, item int) int // whose Write a deal reads of an item that it did not write itself; 0: nobody's
	Falls func(c *Course, tx int) bool      // whether a deal that asks to commit is aborted
}

// Course is how a run stands. Of those that are aborted, or do not end, it keeps
// what they did too: who is not done counts for nobody, but a rule may ask for it.
type Course struct {
	rules Rules
	done  []int              // who committed, in order
	began map[int]int        // how many were done when each deal began
	read  map[int][]api.Seen // what each deal read, in its order
	wrote map[int][]int      // the items that each deal wrote, in its order
}

// Run ops, as deals ask for them: who is done, what these saw, and who wrote each item last.
func Run(l []api.Op, rules Rules) (api.Outcome, error) {
	c, err := Whole(l, rules)
	if err != nil {
		return api.Outcome{}, err
	}
	return c.Outcome(c.done), nil
}

// Whole is how a run of ops stands when all of them have come.
func Whole(l []api.Op, rules Rules) (*Course, error) {
	if _, err := history.Check(l); err != nil {
		return nil, err
	}
	c := newCourse(rules)
	for _, o := range l {
		c.come(o)
	}
	return c, nil
}

func newCourse(rules Rules) *Course {
	return &Course{
		rules: rules,
		began: map[int]int{},
		read:  map[int][]api.Seen{},
		wrote: map[int][]int{},
	}
}

// Done are these, in the order in which they committed.
func (c *Course) Done() []int { return slices.Clone(c.done) }

// Since a deal began these committed, in order; itself too, once it is done.
func (c *Course) Since(tx int) []int { return slices.Clone(c.done[c.began[tx]:]) }

// AtOnce ran two deals, if neither had committed when the other one began.
func (c *Course) AtOnce(a, b int) bool { return !c.before(a, b) && !c.before(b, a) }

// before a deal began another one had committed.
func (c *Course) before(other, tx int) bool {
	return slices.Contains(c.done[:c.began[tx]], other)
}

// Read by a deal was this, in its order.
func (c *Course) Read(tx int) []api.Seen { return slices.Clone(c.read[tx]) }

// Written by a deal were these items, in its order.
func (c *Course) Written(tx int) []int { return slices.Clone(c.wrote[tx]) }

// Wrote tells whether a deal wrote an item.
func (c *Course) Wrote(tx, item int) bool { return slices.Contains(c.wrote[tx], item) }

// Last who committed, of those that wrote an item; 0, if nobody did.
func (c *Course) Last(item int) int { return c.LastOf(c.done, item) }

// LastBefore is Last as it was when a deal began.
func (c *Course) LastBefore(tx, item int) int { return c.LastOf(c.done[:c.began[tx]], item) }

// LastOf some deals, in the order in which they are handed in, who wrote an item; 0, if nobody did.
func (c *Course) LastOf(some []int, item int) int {
	for _, tx := range slices.Backward(some) {
		if c.Wrote(tx, item) {
			return tx
		}
	}
	return 0
}

// come: an op is asked for. Nothing is to be done for an Abort: who is not done counts for nobody.
func (c *Course) come(o api.Op) {
	c.begin(o.Tx)
	switch o.What {
	case api.Read:
		s := api.Seen{Tx: o.Tx, Item: o.Item, From: c.source(o)}
		c.read[o.Tx] = append(c.read[o.Tx], s)
	case api.Write:
		c.wrote[o.Tx] = append(c.wrote[o.Tx], o.Item)
	case api.Commit:
		if !c.rules.Falls(c, o.Tx) {
			c.done = append(c.done, o.Tx)
		}
	}
}

// begin a deal, if it has not begun.
func (c *Course) begin(tx int) {
	if _, has := c.began[tx]; !has {
		c.began[tx] = len(c.done)
	}
}

// source of a Read: the deal itself ahead of all others.
func (c *Course) source(o api.Op) int {
	if c.Wrote(o.Tx, o.Item) {
		return o.Tx
	}
	return c.rules.Sees(c, o.Tx, o.Item)
}

// Outcome as if those that are done stood in this order, which need not be that of their Commits.
func (c *Course) Outcome(done []int) api.Outcome {
	out := api.Outcome{Done: slices.Clone(done)}
	for _, tx := range done {
		out.Seen = append(out.Seen, c.read[tx]...)
	}
	for item := 1; item <= api.MaxItem; item++ {
		out.Last = append(out.Last, c.LastOf(done, item))
	}
	return out
}
