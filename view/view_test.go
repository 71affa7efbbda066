package view_test

import (
	"math"
	"slices"
	"testing"

	"locklane/api"
	"locklane/history"
	"locklane/odds"
	"locklane/plain"
	"locklane/serial"
	"locklane/view"
)

// ops of a text that is right.
func ops(t *testing.T, text string) []api.Op {
	t.Helper()
	h, err := history.Parse(text)
	if err != nil {
		t.Fatalf("%q: %v", text, err)
	}
	return h
}

func read(tx, item int) api.Op  { return api.Op{Tx: tx, What: api.Read, Item: item} }
func write(tx, item int) api.Op { return api.Op{Tx: tx, What: api.Write, Item: item} }
func commit(tx int) api.Op      { return api.Op{Tx: tx, What: api.Commit} }
func abort(tx int) api.Op       { return api.Op{Tx: tx, What: api.Abort} }

// sources of numbers, two by two.
func sources(n ...int) []api.Source {
	var s []api.Source
	for ; len(n) > 1; n = n[2:] {
		s = append(s, api.Source{At: n[0], From: n[1]})
	}
	return s
}

// lost is a history of n ops that no order looks like: what deal 2 wrote is over, and nobody read it.
func lost(n int) []api.Op {
	h := []api.Op{read(1, 1), write(2, 1), write(1, 1), commit(1), commit(2)}
	for len(h) < n {
		h = append(h, read(3, 1))
	}
	return h[:n]
}

// with is lost, and these ops behind it.
func with(more ...api.Op) []api.Op { return append(lost(5), more...) }

// but is lost, of n ops, of which one is another op.
func but(n, at int, o api.Op) []api.Op {
	h := lost(n)
	h[at] = o
	return h
}

// wrong histories, and what Check says of them.
var wrong = []struct {
	name string
	h    []api.Op
	err  api.Errno
}{
	{"one more than MaxOps", lost(api.MaxOps + 1), api.ErrFull},
	{"far more", lost(1000), api.ErrFull},
	{"too many, and one of no deal", but(api.MaxOps+1, 0, read(0, 1)), api.ErrFull},
	{"too many, and one behind its commit", but(api.MaxOps+1, api.MaxOps, read(1, 1)), api.ErrFull},
	{"first of MaxOps", but(api.MaxOps, 0, read(7, 1)), api.ErrRange},
	{"last of MaxOps", but(api.MaxOps, api.MaxOps-1, read(1, 0)), api.ErrRange},
	{"alone, of no deal", []api.Op{commit(0)}, api.ErrRange},
	{"deal 0", with(read(0, 1)), api.ErrRange},
	{"deal below 0", with(read(-1, 1)), api.ErrRange},
	{"deal beyond", with(commit(api.MaxTx + 1)), api.ErrRange},
	{"greatest deal", with(commit(math.MaxInt)), api.ErrRange},
	{"least deal", with(commit(math.MinInt)), api.ErrRange},
	{"what 0", with(api.Op{Tx: 3, Item: 1}), api.ErrRange},
	{"what below 0", with(api.Op{Tx: 3, What: -1, Item: 1}), api.ErrRange},
	{"what beyond", with(api.Op{Tx: 3, What: api.Abort + 1}), api.ErrRange},
	{"item 0", with(read(3, 0)), api.ErrRange},
	{"item below 0", with(write(3, -1)), api.ErrRange},
	{"item beyond", with(write(3, api.MaxItem+1)), api.ErrRange},
	{"greatest item", with(read(3, math.MaxInt)), api.ErrRange},
	{"least item", with(write(3, math.MinInt)), api.ErrRange},
	{"commit of an item", with(api.Op{Tx: 3, What: api.Commit, Item: 1}), api.ErrRange},
	{"abort of an item", with(api.Op{Tx: 3, What: api.Abort, Item: 1}), api.ErrRange},
	{"behind its commit", with(read(1, 1)), api.ErrState},
	{"behind its abort", with(abort(3), read(3, 1)), api.ErrState},
	{"commit twice", with(commit(2)), api.ErrState},
	{"abort, then commit", with(abort(3), commit(3)), api.ErrState},
	{"alone, commit twice", []api.Op{commit(1), commit(1)}, api.ErrState},
	{"range, then state", with(read(0, 1), read(1, 1)), api.ErrRange},
	{"state, then range", with(read(1, 1), read(0, 1)), api.ErrState},
}

// TestWrong: V1: all calls tell Check's error, ahead of ErrNone, and nothing with it.
func TestWrong(t *testing.T) {
	for _, k := range wrong {
		if r, err := view.Reads(k.h); plain.Told(err) != k.err || len(r) > 0 {
			t.Errorf("Reads, %s: got %v %v, want %v", k.name, r, err, k.err)
		}
		if l, err := view.Last(k.h); plain.Told(err) != k.err || len(l) > 0 {
			t.Errorf("Last, %s: got %v %v, want %v", k.name, l, err, k.err)
		}
		if o, err := view.Order(k.h); plain.Told(err) != k.err || len(o) > 0 {
			t.Errorf("Order, %s: got %v %v, want %v", k.name, o, err, k.err)
		}
	}
	if o, err := view.Order(lost(5)); plain.Told(err) != api.ErrNone || len(o) > 0 {
		t.Errorf("Order, but for what is wrong: got %v %v, want %v", o, err, api.ErrNone)
	}
}

// TestWrongSame: V1: Same tells Check's error of the first, then of the other one.
func TestWrongSame(t *testing.T) {
	rights := [][]api.Op{nil, {write(1, 1)}, {commit(1)}, lost(5), lost(api.MaxOps)}
	for _, k := range wrong {
		for _, right := range rights {
			if is, err := view.Same(k.h, right); is || plain.Told(err) != k.err {
				t.Errorf("%s, then %v: got %v %v, want %v", k.name, right, is, err, k.err)
			}
			if is, err := view.Same(right, k.h); is || plain.Told(err) != k.err {
				t.Errorf("%v, then %s: got %v %v, want %v", right, k.name, is, err, k.err)
			}
		}
		for _, other := range wrong {
			if is, err := view.Same(k.h, other.h); is || plain.Told(err) != k.err {
				t.Errorf("%s, then %s: got %v %v, want %v", k.name, other.name, is, err, k.err)
			}
		}
	}
}

// TestReads: V1, Reads.
func TestReads(t *testing.T) {
	for _, k := range []struct {
		text string
		want []api.Source
	}{
		{"", nil},
		// Nobody commits.
		{"w1(a) r2(a) r1(a)", nil},
		{"w1(a) r2(a) a1 a2", nil},
		{"w1(a) r2(a) a1 r3(a)", nil},
		// Nobody reads.
		{"c1", nil},
		{"w1(a) w2(a) c1 c2", nil},
		// Nobody wrote it, or not yet, or another item.
		{"r1(a) c1", sources(0, 0)},
		{"r6(f) r6(e) c6", sources(0, 0, 1, 0)},
		{"r1(a) w2(a) c1 c2", sources(0, 0)},
		{"w2(b) r1(a) c1 c2", sources(1, 0)},
		// The deal itself wrote it.
		{"w1(a) r1(a) c1", sources(1, 1)},
		{"w2(a) w1(a) r1(a) c1 c2", sources(2, 1)},
		{"r1(a) w1(a) r1(a) c1", sources(0, 0, 2, 1)},
		// Another one wrote it, ahead of its commit or behind it.
		{"w1(a) r2(a) c1 c2", sources(1, 1)},
		{"w1(a) c1 r2(a) c2", sources(2, 1)},
		{"w6(f) r1(f) c1 c6", sources(1, 6)},
		{"w1(a) w2(a) r1(a) c1 c2", sources(2, 2)},
		{"w1(a) w2(a) w3(a) w2(a) r4(a) c1 c2 c3 c4", sources(4, 2)},
		{"w1(a) r3(a) w2(a) r3(a) c1 c2 c3", sources(1, 1, 3, 2)},
		{"w1(a) w2(b) r3(b) r3(a) r3(c) c3 c2 c1", sources(2, 2, 3, 1, 4, 0)},
		// One wrote it who aborts, later or by then, or does not end: it is as if it never had.
		{"w1(a) r2(a) a1 c2", sources(0, 0)},
		{"w1(a) r2(a) c2 a1", sources(0, 0)},
		{"w1(a) a1 r2(a) c2", sources(0, 0)},
		{"w1(a) r2(a) c2", sources(0, 0)},
		{"w3(a) w1(a) r2(a) c3 a1 c2", sources(1, 3)},
		{"w3(a) w1(a) r2(a) c3 c2", sources(1, 3)},
		{"w2(a) w1(a) r2(a) c2", sources(1, 2)},
		// Who reads does not commit.
		{"w1(a) r2(a) c1 a2", nil},
		{"w1(a) r2(a) c1", nil},
		// Places are those of what is done.
		{"r4(a) w4(a) r5(a) r1(a) a4 r2(a) c2 c1", sources(0, 0, 1, 0)},
		{"r4(b) w1(a) w4(a) r2(a) w4(b) c4 r1(b) c1 r2(b) a2", sources(0, 0, 5, 4)},
	} {
		got, err := view.Reads(ops(t, k.text))
		if err != nil || !slices.Equal(got, k.want) {
			t.Errorf("%q: got %v %v, want %v", k.text, got, err, k.want)
		}
	}
}

// TestLast: V1, Last.
func TestLast(t *testing.T) {
	for _, k := range []struct {
		text string
		want []int
	}{
		{"", []int{0, 0, 0, 0, 0, 0}},
		// Nobody commits.
		{"w1(a) w2(b)", []int{0, 0, 0, 0, 0, 0}},
		{"w1(a) w2(b) a1 a2", []int{0, 0, 0, 0, 0, 0}},
		{"w1(a) w2(b) a2", []int{0, 0, 0, 0, 0, 0}},
		// Nobody writes.
		{"c1 c2", []int{0, 0, 0, 0, 0, 0}},
		{"r1(a) r2(f) c1 c2", []int{0, 0, 0, 0, 0, 0}},

		{"w1(a) c1", []int{1, 0, 0, 0, 0, 0}},
		{"w6(f) c6", []int{0, 0, 0, 0, 0, 6}},
		{"w1(a) w2(a) c2 c1", []int{2, 0, 0, 0, 0, 0}},
		{"w1(a) w2(a) w1(a) c1 c2", []int{1, 0, 0, 0, 0, 0}},
		{"w2(c) w1(c) r2(c) c1 c2", []int{0, 0, 1, 0, 0, 0}},
		{"w1(a) w2(b) w3(c) w4(d) w5(e) w6(f) c6 c5 c4 c3 c2 c1", []int{1, 2, 3, 4, 5, 6}},
		{"w1(f) w2(e) w3(d) w4(c) w5(b) w6(a) c6 c5 c4 c3 c2 c1", []int{6, 5, 4, 3, 2, 1}},
		// Who wrote last aborts, or does not end: then it is the one ahead of it.
		{"w1(a) w2(a) c1 a2", []int{1, 0, 0, 0, 0, 0}},
		{"w1(a) w2(a) c1", []int{1, 0, 0, 0, 0, 0}},
		{"w3(b) w1(b) w2(b) a2 c3", []int{0, 3, 0, 0, 0, 0}},
		{"w1(a) w2(b) c1", []int{1, 0, 0, 0, 0, 0}},
	} {
		got, err := view.Last(ops(t, k.text))
		if err != nil || !slices.Equal(got, k.want) {
			t.Errorf("%q: got %v %v, want %v", k.text, got, err, k.want)
		}
	}
}

// TestSame: V1, Same, asked both ways round.
func TestSame(t *testing.T) {
	for _, k := range []struct {
		h, g string
		want bool
	}{
		{"", "", true},
		{"c1", "c1", true},
		{"r1(a) w1(a) c1", "r1(a) w1(a) c1", true},
		// Who does not commit does not count: not at all, in another order, or with other ops.
		{"", "w1(a) w2(a) a2", true},
		{"w1(a)", "r2(b) a2", true},
		{"w1(a) w2(a) c1", "w1(a) c1", true},
		{"w1(a) w2(a) r1(a) c1 a2", "w2(b) w1(a) r1(a) c1", true},
		{"w2(a) r1(a) c1", "r1(a) w2(a) a2 c1", true},
		{"r1(a) r1(b)", "r1(b) r1(a)", true},
		{"", "c1", false},
		{"w1(a) a1", "w1(a) c1", false},
		{"w1(a)", "w1(a) c1", false},
		{"w1(a) c1 w2(b) c2", "w1(a) c1 w2(b)", false},

		// The ops of a deal are not the same.
		{"r1(a) c1", "r1(b) c1", false},
		{"r1(a) c1", "w1(a) c1", false},
		{"r1(a) c1", "r2(a) c2", false},
		{"r1(a) c1", "c1", false},
		{"r1(a) c1", "r1(a) r1(a) c1", false},
		{"w1(a) c1", "w1(a) w1(a) c1", false},
		{"r1(a) r1(a) c1 c2", "r1(a) c1 r2(a) c2", false},
		{"w1(a) r1(a) r1(b) c1", "w1(a) r1(a) r1(c) c1", false},
		{"c1 c2", "c1 c3", false},
		// Not in the same order, though what is read and left is.
		{"r1(a) r1(b) c1", "r1(b) r1(a) c1", false},
		{"w1(a) w1(b) c1", "w1(b) w1(a) c1", false},
		{"w1(a) r1(b) c1", "r1(b) w1(a) c1", false},
		{"w1(a) w1(a) r1(a) c1", "w1(a) r1(a) w1(a) c1", false},

		// Last is not the same.
		{"w1(a) w2(a) c1 c2", "w2(a) w1(a) c1 c2", false},
		{"r1(a) w1(b) w2(b) c1 c2", "w2(b) r1(a) w1(b) c1 c2", false},
		{"w1(f) w2(f) r3(f) c1 c2 c3", "w2(f) r3(f) w1(f) c1 c2 c3", false},
		{"w1(a) w2(a) w1(b) w2(b) c1 c2", "w1(a) w2(a) w2(b) w1(b) c1 c2", false},
		// A Read reads from another deal, or from nobody.
		{"w1(a) w2(a) r3(a) w4(a) c1 c2 c3 c4", "w2(a) w1(a) r3(a) w4(a) c1 c2 c3 c4", false},
		{"w1(a) r2(a) c1 c2", "r2(a) w1(a) c1 c2", false},
		{"w1(a) r2(a) r2(a) c1 c2", "r2(a) w1(a) r2(a) c1 c2", false},
		{"w1(a) r1(a) w2(a) c1 c2", "w1(a) w2(a) r1(a) c1 c2", false},
		// A Read reads another Write of the same deal.
		{"w1(a) r2(a) w1(a) c1 c2", "w1(a) w1(a) r2(a) c1 c2", false},
		{"w1(a) r2(a) w1(a) w3(a) c1 c2 c3", "w1(a) w1(a) r2(a) w3(a) c1 c2 c3", false},
		{"w1(a) w1(b) r2(a) w1(a) c1 c2", "w1(a) w1(b) w1(a) r2(a) c1 c2", false},
		{"w1(a) r2(a) w1(a) r2(a) c1 c2", "w1(a) r2(a) r2(a) w1(a) c1 c2", false},
		// It is the same Write, whatever went between.
		{"w1(a) r2(a) r1(b) w1(a) c1 c2", "w1(a) r1(b) r2(a) w1(a) c1 c2", true},

		// Only what is not at odds changed places.
		{"r1(a) r2(a) c1 c2", "r2(a) r1(a) c2 c1", true},
		{"w1(a) w2(b) c1 c2", "w2(b) c2 w1(a) c1", true},
		{"w1(a) r2(a) c1 c2", "w1(a) c1 r2(a) c2", true},
		// What is at odds changed places, and all is the same.
		{"w1(a) w2(a) w3(a) c1 c2 c3", "w2(a) w1(a) w3(a) c1 c2 c3", true},
		{"r1(a) w2(a) w1(a) w3(a) c1 c2 c3", "r1(a) w1(a) w2(a) w3(a) c1 c2 c3", true},
		{"w1(a) w2(a) r2(a) w3(a) c1 c2 c3", "w2(a) r2(a) w1(a) w3(a) c1 c2 c3", true},
		{"w1(a) w2(a) r3(a) c1 c2 c3", "w1(a) w2(a) r3(a) c3 c2 c1", true},
		{"w1(a) w2(a) w1(a) c1 c2", "w2(a) w1(a) w1(a) c1 c2", true},
		{"w1(a) w2(a) w1(a) c1 c2", "w1(a) w1(a) w2(a) c1 c2", false},
	} {
		if got, err := view.Same(ops(t, k.h), ops(t, k.g)); err != nil || got != k.want {
			t.Errorf("%q, %q: got %v %v, want %v", k.h, k.g, got, err, k.want)
		}
		if got, err := view.Same(ops(t, k.g), ops(t, k.h)); err != nil || got != k.want {
			t.Errorf("%q, %q: got %v %v, want %v", k.g, k.h, got, err, k.want)
		}
	}
}

// TestOrder: V1, Order, and beside it what chapter 4's tells of the same history.
func TestOrder(t *testing.T) {
	for _, k := range []struct {
		text   string
		want   []int
		err    api.Errno
		byOdds api.Errno
	}{
		{"", nil, api.OK, api.OK},
		// Nobody commits, and some do.
		{"r1(a) w2(a) w1(a)", nil, api.OK, api.OK},
		{"r1(a) w2(a) w1(a) a1 a2", nil, api.OK, api.OK},
		{"r1(a) w2(a) w1(a) c1 a2", []int{1}, api.OK, api.OK},
		{"r1(a) w2(a) w1(a) c2", []int{2}, api.OK, api.OK},
		{"w3(a) r2(a) w2(b) r1(b) c1 a2 c3", []int{1, 3}, api.OK, api.OK},

		{"c1", []int{1}, api.OK, api.OK},
		{"r6(f) w6(f) r6(f) w6(f) c6", []int{6}, api.OK, api.OK},
		{"w1(a) r2(a) c1 c2", []int{1, 2}, api.OK, api.OK},
		{"w2(a) r1(a) c1 c2", []int{2, 1}, api.OK, api.OK},
		{"r2(a) w1(a) c1 c2", []int{2, 1}, api.OK, api.OK},
		{"w2(a) w1(a) c1 c2", []int{2, 1}, api.OK, api.OK},
		// Who commits first need not be first.
		{"r2(a) w1(a) c1 r2(b) c2", []int{2, 1}, api.OK, api.OK},

		// Several look the same: the first by numbers.
		{"c6 c5 c4 c3 c2 c1", []int{1, 2, 3, 4, 5, 6}, api.OK, api.OK},
		{"r3(a) c3 r2(a) c2 r1(a) c1", []int{1, 2, 3}, api.OK, api.OK},
		{"w3(c) c3 w2(b) c2 w1(a) c1", []int{1, 2, 3}, api.OK, api.OK},
		{"w3(a) w3(b) r2(a) r1(b) c1 c2 c3", []int{3, 1, 2}, api.OK, api.OK},
		{"w3(a) r1(a) c2 c1 c3", []int{2, 3, 1}, api.OK, api.OK},
		{"w6(a) r5(a) w4(b) r3(b) w2(c) r1(c) c1 c2 c3 c4 c5 c6", []int{2, 1, 4, 3, 6, 5}, api.OK, api.OK},
		// What nobody reads may be written in any order, but the last of it.
		{"w2(a) w1(a) w3(a) c1 c2 c3", []int{1, 2, 3}, api.OK, api.OK},
		{"w6(a) w5(a) w4(a) w3(a) w2(a) w1(a) c1 c2 c3 c4 c5 c6", []int{2, 3, 4, 5, 6, 1}, api.OK, api.OK},
		{"w3(a) w2(a) r2(a) w1(a) w4(a) c1 c2 c3 c4", []int{1, 2, 3, 4}, api.OK, api.OK},
		// It may be the lesser order though chapter 4's is another one.
		{"w3(a) r3(a) w1(a) w2(a) c1 c2 c3", []int{1, 3, 2}, api.OK, api.OK},

		// There is one, though chapter 4's Order has none.
		{"w1(a) w2(a) w1(a) c1 c2", []int{2, 1}, api.OK, api.ErrCycle},
		{"r1(a) w2(a) w1(a) w3(a) c1 c2 c3", []int{1, 2, 3}, api.OK, api.ErrCycle},
		{"r3(a) w2(a) w3(a) w1(a) c1 c2 c3", []int{3, 2, 1}, api.OK, api.ErrCycle},
		{"w1(a) w2(a) w2(b) w1(b) w3(a) w3(b) c1 c2 c3", []int{1, 2, 3}, api.OK, api.ErrCycle},
		{"r6(a) w5(a) w6(a) w4(a) c6 c5 c4 c3 c2 c1", []int{1, 2, 3, 6, 5, 4}, api.OK, api.ErrCycle},
		{"w1(a) w2(a) w1(a) w3(b) w4(b) w3(b) w5(c) w6(c) w5(c) c1 c2 c3 c4 c5 c6", []int{2, 1, 4, 3, 6, 5}, api.OK, api.ErrCycle},

		// There is none: a Write is lost, a Read comes to see two, deals read from each other.
		{"r1(a) w2(a) w1(a) c1 c2", nil, api.ErrNone, api.ErrCycle},
		{"r1(a) r2(a) w1(a) w2(a) c1 c2", nil, api.ErrNone, api.ErrCycle},
		{"r1(a) w2(a) r1(a) c1 c2", nil, api.ErrNone, api.ErrCycle},
		{"w1(a) w2(b) r2(a) r1(b) c1 c2", nil, api.ErrNone, api.ErrCycle},
		{"w1(a) w2(a) w2(b) w1(b) c1 c2", nil, api.ErrNone, api.ErrCycle},
		{"w1(a) r2(a) w1(a) c1 c2", nil, api.ErrNone, api.ErrCycle},
		{"w1(a) w2(a) r1(a) c1 c2", nil, api.ErrNone, api.ErrCycle},
		{"r1(a) r2(b) r3(c) w1(b) w2(c) w3(a) c1 c2 c3", nil, api.ErrNone, api.ErrCycle},
		// Not so, if one of them does not commit.
		{"w1(a) r2(a) w1(a) c1 a2", []int{1}, api.OK, api.OK},
		{"r1(a) r2(b) r3(c) w1(b) w2(c) w3(a) c1 c2 a3", []int{2, 1}, api.OK, api.OK},
		// There is none of six deals.
		{"r1(a) r2(b) r3(c) r4(d) r5(e) r6(f) w1(b) w2(c) w3(d) w4(e) w5(f) w6(a) c1 c2 c3 c4 c5 c6", nil, api.ErrNone, api.ErrCycle},
		{"r5(a) w6(a) w5(a) c1 c2 c3 c4 c5 c6", nil, api.ErrNone, api.ErrCycle},
		{"w1(a) w2(a) w3(a) w4(a) w5(a) w6(a) w6(b) w5(b) w4(b) w3(b) w2(b) w1(b) c1 c2 c3 c4 c5 c6", nil, api.ErrNone, api.ErrCycle},
		// The last order of six is the only one.
		{"w6(a) r5(a) w5(a) r4(a) w4(a) r3(a) w3(a) r2(a) w2(a) r1(a) c1 c2 c3 c4 c5 c6", []int{6, 5, 4, 3, 2, 1}, api.OK, api.OK},
	} {
		h := ops(t, k.text)
		if got, err := view.Order(h); plain.Told(err) != k.err || !slices.Equal(got, k.want) {
			t.Errorf("%q: got %v %v, want %v %v", k.text, got, err, k.want, k.err)
		}
		if got, err := serial.Order(h); plain.Told(err) != k.byOdds {
			t.Errorf("%q: by odds: got %v %v, want %v", k.text, got, err, k.byOdds)
		}
	}
}

// TestMany: V1 at histories of MaxOps ops of six deals.
func TestMany(t *testing.T) {
	var h []api.Op
	var reads []api.Source
	for i := range api.MaxOps - api.MaxTx {
		tx := api.MaxTx - i*api.MaxTx/(api.MaxOps-api.MaxTx)
		if i%2 == 0 {
			h = append(h, write(tx, api.MaxItem))
			continue
		}
		h = append(h, read(tx, api.MaxItem))
		reads = append(reads, api.Source{At: i, From: h[i-1].Tx})
	}
	for tx := 1; tx <= api.MaxTx; tx++ {
		h = append(h, commit(tx))
	}
	if len(h) != api.MaxOps {
		t.Fatalf("%d ops", len(h))
	}
	byWords(t, h)
	if r, err := view.Reads(h); err != nil || !slices.Equal(r, reads) {
		t.Errorf("Reads: got %v %v, want %v", r, err, reads)
	}
	if l, err := view.Last(h); err != nil || !slices.Equal(l, []int{0, 0, 0, 0, 0, 1}) {
		t.Errorf("Last: got %v %v", l, err)
	}
	g := slices.Clone(h)
	slices.SortStableFunc(g, func(o, p api.Op) int { return p.Tx - o.Tx })
	if is, err := view.Same(h, g); err != nil || !is {
		t.Errorf("Same, one behind the other: got %v %v", is, err)
	}
	slices.SortStableFunc(g, func(o, p api.Op) int { return o.Tx - p.Tx })
	if is, err := view.Same(h, g); err != nil || is {
		t.Errorf("Same, the other way round: got %v %v", is, err)
	}
	full := lost(api.MaxOps)
	if o, err := view.Order(full); plain.Told(err) != api.ErrNone || len(o) > 0 {
		t.Errorf("Order: got %v %v, want %v", o, err, api.ErrNone)
	}
}

// orders of deals that are given rising, the first by numbers first.
func orders(deals []int) [][]int {
	if len(deals) == 0 {
		return [][]int{nil}
	}
	var all [][]int
	for i, tx := range deals {
		for _, rest := range orders(slices.Delete(slices.Clone(deals), i, i+1)) {
			all = append(all, append([]int{tx}, rest...))
		}
	}
	return all
}

// done is what deals that commit do, and which they are, told without the program.
func done(h []api.Op) (kept []api.Op, deals []int) {
	for tx := 1; tx <= api.MaxTx; tx++ {
		if slices.Contains(h, commit(tx)) {
			deals = append(deals, tx)
		}
	}
	for _, o := range h {
		if slices.Contains(deals, o.Tx) {
			kept = append(kept, o)
		}
	}
	return kept, deals
}

// laid are ops, deal by deal, along an order.
func laid(h []api.Op, order []int) (l []api.Op) {
	for _, tx := range order {
		for _, o := range h {
			if o.Tx == tx {
				l = append(l, o)
			}
		}
	}
	return l
}

// lastWrite of an item: its place; -1, if nobody wrote it.
func lastWrite(h []api.Op, item int) int {
	for at := len(h) - 1; at >= 0; at-- {
		if h[at].What == api.Write && h[at].Item == item {
			return at
		}
	}
	return -1
}

// deed: an op, and of a Read what it reads: the deal, and which of its ops it is; 0 and 0, if nobody wrote it.
type deed struct {
	op        api.Op
	from, nth int
}

// deedsOf a deal, told without the program.
func deedsOf(h []api.Op, tx int) (l []deed) {
	for at, o := range h {
		d := deed{op: o}
		if w := lastWrite(h[:at], o.Item); o.What == api.Read && w >= 0 {
			d.from = h[w].Tx
			d.nth = len(laid(h[:w], []int{d.from}))
		}
		if o.Tx == tx {
			l = append(l, d)
		}
	}
	return l
}

// lastOf items, told without the program.
func lastOf(h []api.Op) (l []int) {
	for item := 1; item <= api.MaxItem; item++ {
		tx := 0
		if w := lastWrite(h, item); w >= 0 {
			tx = h[w].Tx
		}
		l = append(l, tx)
	}
	return l
}

// look is what Same holds against each other, of what is done.
type look struct {
	deeds [api.MaxTx + 1][]deed
	last  []int
}

func lookAt(kept []api.Op) (l look) {
	for tx := 1; tx <= api.MaxTx; tx++ {
		l.deeds[tx] = deedsOf(kept, tx)
	}
	l.last = lastOf(kept)
	return l
}

func (l look) equal(m look) bool {
	for tx := range l.deeds {
		if !slices.Equal(l.deeds[tx], m.deeds[tx]) {
			return false
		}
	}
	return slices.Equal(l.last, m.last)
}

// byWords holds what is told of a right history against the promise's words, by all orders of its deals.
func byWords(t *testing.T, h []api.Op) (found bool) {
	t.Helper()
	kept, deals := done(h)
	var reads []api.Source
	for at, o := range kept {
		if o.What == api.Read {
			own := deedsOf(kept[:at+1], o.Tx)
			reads = append(reads, api.Source{At: at, From: own[len(own)-1].from})
		}
	}
	if r, err := view.Reads(h); err != nil || !slices.Equal(r, reads) {
		t.Errorf("Reads of %v: got %v %v, want %v", h, r, err, reads)
	}
	if l, err := view.Last(h); err != nil || !slices.Equal(l, lastOf(kept)) {
		t.Errorf("Last of %v: got %v %v, want %v", h, l, err, lastOf(kept))
	}
	was := lookAt(kept)
	var want []int
	wantErr := api.ErrNone
	for _, order := range orders(deals) {
		g := laid(kept, order)
		same := was.equal(lookAt(g))
		if is, err := view.Same(h, g); err != nil || is != same {
			t.Errorf("Same of %v, %v: got %v %v, want %v", h, g, is, err, same)
		}
		if same && wantErr != api.OK {
			want, wantErr = order, api.OK
		}
	}
	if o, err := view.Order(h); plain.Told(err) != wantErr || !slices.Equal(o, want) {
		t.Errorf("Order of %v: got %v %v, want %v %v", h, o, err, want, wantErr)
	}
	byOdds(t, h, wantErr)
	return wantErr == api.OK
}

// byOdds holds a history that has an order by odds to have one by view: that one looks the same.
func byOdds(t *testing.T, h []api.Op, byView api.Errno) {
	t.Helper()
	order, err := serial.Order(h)
	if err != nil {
		return
	}
	if byView != api.OK {
		t.Errorf("%v has an order by odds, %v, and none by view", h, order)
	}
	s, err := serial.Serial(h, order)
	if err != nil {
		t.Fatal(err)
	}
	if is, err := view.Same(h, s); err != nil || !is {
		t.Errorf("Same of %v, %v, which is the same by odds: got %v %v", h, s, is, err)
	}
}

// ways in which deals go on at once.
func ways(parts [][]api.Op) [][]api.Op {
	var all [][]api.Op
	var lay func(h []api.Op, rest [][]api.Op)
	lay = func(h []api.Op, rest [][]api.Op) {
		over := true
		for i, part := range rest {
			if len(part) > 0 {
				over = false
				next := slices.Clone(rest)
				next[i] = part[1:]
				lay(append(slices.Clone(h), part[0]), next)
			}
		}
		if over {
			all = append(all, h)
		}
	}
	lay(nil, parts)
	return all
}

// TestSmall: V1: all ways in which three small deals go on at once.
func TestSmall(t *testing.T) {
	for _, texts := range [][]string{
		{"w1(a) c1", "w2(a) c2", "w3(a) c3"},
		{"r1(a) w1(a) c1", "w2(a) c2", "w3(a) r3(a) c3"},
		{"r1(a) w1(b) c1", "r2(b) w2(a) c2", "w3(b) c3"},
		{"r1(a) w1(b) c1", "r2(b) w2(c) c2", "r3(c) w3(a) c3"},
		{"r4(a) w4(a) c4", "r5(a) w5(b) a5", "w6(b) w6(a) c6"},
		{"w6(a) w6(b) c6", "r2(a) r2(b)", "w4(b) w4(a) c4"},
		{"w3(a) w3(a) c3", "r1(a) r1(a) c1", "w2(a) c2"},
	} {
		var parts [][]api.Op
		for _, text := range texts {
			parts = append(parts, ops(t, text))
		}
		for _, h := range ways(parts) {
			byWords(t, h)
		}
	}
}

// TestSameOfWays: V1, Same of any two ways in which small deals go on at once; and what is the same by odds is by view.
func TestSameOfWays(t *testing.T) {
	for _, texts := range [][]string{
		{"w1(a) w1(a) c1", "r2(a) w2(a) c2", "w3(a)"},
		{"r1(a) w1(b) c1", "r2(b) w2(a) c2", "c3"},
		{"w1(a) c1", "w2(a) c2", "w3(a) c3"},
		{"w1(a) r1(a) c1", "w2(a) c2", "r3(a) a3"},
	} {
		var parts [][]api.Op
		for _, text := range texts {
			parts = append(parts, ops(t, text))
		}
		all := ways(parts)
		var looks []look
		for _, h := range all {
			kept, _ := done(h)
			looks = append(looks, lookAt(kept))
		}
		for i, h := range all {
			for j, g := range all {
				same := looks[i].equal(looks[j])
				if is, err := view.Same(h, g); err != nil || is != same {
					t.Errorf("%v, %v: got %v %v, want %v", h, g, is, err, same)
				}
				if is, err := odds.Same(h, g); err != nil || is && !same {
					t.Errorf("%v, %v: the same by odds, %v, and not by view", h, g, err)
				}
			}
		}
	}
}

// TestGreat: V1: histories of six deals, by a rule that mixes numbers: some have an order, some have none.
func TestGreat(t *testing.T) {
	mixed := uint64(1)
	roll := func(n int) int {
		mixed = mixed*6364136223846793005 + 1442695040888963407
		return int(mixed>>33) % n
	}
	all := orders([]int{1, 2, 3, 4, 5, 6})
	had := 0
	for i := range 120 {
		var h []api.Op
		for range i % 24 {
			o := write(roll(api.MaxTx)+1, roll(api.MaxItem)+1)
			if roll(3) == 0 {
				o.What = api.Read
			}
			h = append(h, o)
		}
		for _, tx := range all[roll(len(all))] {
			if end := roll(12); end > 1 {
				h = append(h, commit(tx))
			} else if end == 1 {
				h = append(h, abort(tx))
			}
		}
		if byWords(t, h) {
			had++
		}
	}
	if had < 30 || had > 90 {
		t.Errorf("%d of 120 have an order: too few of a kind to tell", had)
	}
}

// TestMemory: P2 and P4 of DOC.md: what is handed in stays, nothing behind its length is read or written, and what comes out is fresh, call by call.
func TestMemory(t *testing.T) {
	whole := append(ops(t, "w3(a) r1(a) w4(b) c1 c2 c3"), api.Op{Tx: -7, What: 99, Item: 5}, commit(1))
	beside := append(ops(t, "w3(a) c3 c2 r1(a) c1"), commit(9), write(3, 1))
	was, other := slices.Clone(whole), slices.Clone(beside)
	h, g := whole[:6], beside[:5]
	for range 2 {
		r, err := view.Reads(h)
		if err != nil || !slices.Equal(r, sources(1, 3)) {
			t.Fatalf("Reads: got %v %v", r, err)
		}
		l, err := view.Last(h)
		if err != nil || !slices.Equal(l, []int{3, 0, 0, 0, 0, 0}) {
			t.Fatalf("Last: got %v %v", l, err)
		}
		if is, err := view.Same(h, g); err != nil || !is {
			t.Fatalf("Same: got %v %v", is, err)
		}
		o, err := view.Order(h)
		if err != nil || !slices.Equal(o, []int{2, 3, 1}) {
			t.Fatalf("Order: got %v %v", o, err)
		}
		if _, err := view.Order(lost(5)); plain.Told(err) != api.ErrNone {
			t.Fatalf("Order of what has none: got %v", err)
		}
		clear(r[:cap(r)])
		clear(l[:cap(l)])
		clear(o[:cap(o)])
		if !slices.Equal(whole, was) || !slices.Equal(beside, other) {
			t.Fatalf("what was handed in is now %v, %v", whole, beside)
		}
	}
}
