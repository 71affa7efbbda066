package mix_test

import (
	"math"
	"slices"
	"testing"

	"locklane/api"
	"locklane/history"
	"locklane/mix"
	"locklane/plain"
)

// maxOps whose orders are told of.
const maxOps = 8

// ops of a text that is right.
func ops(t *testing.T, text string) []api.Op {
	t.Helper()
	h, err := history.Parse(text)
	if err != nil {
		t.Fatalf("%q: %v", text, err)
	}
	return h
}

func read(tx, item int) api.Op  { return api.Op{Tx: tx, What: api.Read, Item: item} }
func write(tx, item int) api.Op { return api.Op{Tx: tx, What: api.Write, Item: item} }
func commit(tx int) api.Op      { return api.Op{Tx: tx, What: api.Commit} }
func abort(tx int) api.Op       { return api.Op{Tx: tx, What: api.Abort} }

// some is a history of n ops, not all of whose orders are good.
func some(n int) []api.Op {
	h := []api.Op{read(1, 1), write(2, 1), write(1, 1), commit(1), commit(2)}
	for len(h) < n {
		h = append(h, read(3, 1))
	}
	return h[:n]
}

// with is some, and these ops behind it.
func with(more ...api.Op) []api.Op { return append(some(5), more...) }

// but is some, of n ops, of which one is another op.
func but(n, at int, o api.Op) []api.Op {
	h := some(n)
	h[at] = o
	return h
}

// numbers of orders, none of which may be if there are no orders.
var numbers = []int{math.MinInt, -1, 0, 1, 9, math.MaxInt}

// refused holds that all calls tell an error, and nothing with it, of whichever order.
func refused(t *testing.T, name string, h []api.Op, want api.Errno) {
	t.Helper()
	if n, err := mix.Count(h); plain.Told(err) != want || n != 0 {
		t.Errorf("Count, %s: got %v %v, want %v", name, n, err, want)
	}
	for _, k := range numbers {
		if order, err := mix.Nth(h, k); plain.Told(err) != want || len(order) > 0 {
			t.Errorf("Nth %d, %s: got %v %v, want %v", k, name, order, err, want)
		}
	}
	if n, err := mix.Good(h); plain.Told(err) != want || n != 0 {
		t.Errorf("Good, %s: got %v %v, want %v", name, n, err, want)
	}
}

// TestWrong: M1: all calls tell Check's error, ahead of ErrFull of more than 8 ops and of ErrRange of no order.
func TestWrong(t *testing.T) {
	for _, k := range []struct {
		name string
		h    []api.Op
		err  api.Errno
	}{
		{"one more than MaxOps", some(api.MaxOps + 1), api.ErrFull},
		{"far more", some(1000), api.ErrFull},
		{"beyond MaxOps, and one of no deal", but(api.MaxOps+1, 0, read(0, 1)), api.ErrFull},
		{"beyond MaxOps, and one behind its commit", but(api.MaxOps+1, api.MaxOps, read(1, 1)), api.ErrFull},
		{"first of MaxOps", but(api.MaxOps, 0, read(7, 1)), api.ErrRange},
		{"last of MaxOps", but(api.MaxOps, api.MaxOps-1, read(1, 0)), api.ErrRange},
		{"last of MaxOps, behind its commit", but(api.MaxOps, api.MaxOps-1, read(1, 1)), api.ErrState},
		{"first of 9", but(maxOps+1, 0, read(0, 1)), api.ErrRange},
		{"last of 9", but(maxOps+1, maxOps, write(3, 7)), api.ErrRange},
		{"last of 9, behind its commit", but(maxOps+1, maxOps, write(2, 1)), api.ErrState},
		{"first of 8", but(maxOps, 0, read(0, 1)), api.ErrRange},
		{"last of 8", but(maxOps, maxOps-1, read(3, 0)), api.ErrRange},
		{"last of 8, behind its commit", but(maxOps, maxOps-1, commit(1)), api.ErrState},
		{"alone, of no deal", []api.Op{commit(0)}, api.ErrRange},
		{"deal 0", with(read(0, 1)), api.ErrRange},
		{"deal below 0", with(read(-1, 1)), api.ErrRange},
		{"deal beyond", with(commit(api.MaxTx + 1)), api.ErrRange},
		{"abort of a deal beyond", with(abort(api.MaxTx + 1)), api.ErrRange},
		{"greatest deal", with(commit(math.MaxInt)), api.ErrRange},
		{"least deal", with(commit(math.MinInt)), api.ErrRange},
		{"what 0", with(api.Op{Tx: 3, Item: 1}), api.ErrRange},
		{"what below 0", with(api.Op{Tx: 3, What: -1, Item: 1}), api.ErrRange},
		{"what beyond", with(api.Op{Tx: 3, What: api.Abort + 1}), api.ErrRange},
		{"item 0", with(read(3, 0)), api.ErrRange},
		{"item below 0", with(write(3, -1)), api.ErrRange},
		{"item beyond", with(write(3, api.MaxItem+1)), api.ErrRange},
		{"greatest item", with(read(3, math.MaxInt)), api.ErrRange},
		{"least item", with(write(3, math.MinInt)), api.ErrRange},
		{"commit of an item", with(api.Op{Tx: 3, What: api.Commit, Item: 1}), api.ErrRange},
		{"abort of an item", with(api.Op{Tx: 3, What: api.Abort, Item: 1}), api.ErrRange},
		{"behind its commit", with(read(1, 1)), api.ErrState},
		{"behind its abort", with(abort(3), read(3, 1)), api.ErrState},
		{"commit twice", with(commit(2)), api.ErrState},
		{"abort, then commit", with(abort(3), commit(3)), api.ErrState},
		{"alone, commit twice", []api.Op{commit(1), commit(1)}, api.ErrState},
		{"range, then state", with(read(0, 1), read(1, 1)), api.ErrRange},
		{"state, then range", with(read(1, 1), read(0, 1)), api.ErrState},
	} {
		refused(t, k.name, k.h, k.err)
	}
}

// TestFull: M1: of more than 8 ops there is ErrFull, ahead of ErrRange, though there were few orders, or just one.
func TestFull(t *testing.T) {
	for n := maxOps + 1; n <= api.MaxOps; n++ {
		refused(t, "more than 8 ops", some(n), api.ErrFull)
		refused(t, "more than 8 ops of one deal", slices.Repeat([]api.Op{read(6, 6)}, n), api.ErrFull)
		// Of more ops the orders would not come to an end.
		if t.Failed() {
			return
		}
	}
	for _, text := range []string{
		"r1(a) w1(a) r1(b) w1(b) r1(c) w1(c) r1(d) w1(d) c1",
		"r1(a) w1(a) r1(b) w1(b) r1(c) w1(c) r1(d) c1 c2",
		"r1(a) w2(a) c1 c2 a3 a4 w5(a) r6(a) c6",
	} {
		h := ops(t, text)
		refused(t, text, h, api.ErrFull)
		if n, err := mix.Count(h[:maxOps]); err != nil || n == 0 {
			t.Errorf("Count, all but the last op of %q: got %v %v", text, n, err)
		}
	}
}

// TestNumbers: M1, Count and Good.
func TestNumbers(t *testing.T) {
	for _, k := range []struct {
		text        string
		count, good int
	}{
		// There is one order of no ops, and one of one deal.
		{"", 1, 1},
		{"r1(a)", 1, 1},
		{"c6", 1, 1},
		{"r4(a) w4(a) a4", 1, 1},
		{"r1(a) w1(a) r1(a) w1(a) r1(b) w1(b) r1(a) c1", 1, 1},
		{"r6(a) r6(a) r6(a) r6(a) r6(a) r6(a) r6(a) r6(a)", 1, 1},
		// Deals of one op each.
		{"c1 c2", 2, 2},
		{"c2 c1", 2, 2},
		{"w1(a) w2(a)", 2, 2},
		{"c1 a2 c3", 6, 6},
		{"w4(a) w5(a) c6 c1", 24, 24},
		{"r1(a) w2(a) c3 a4 r5(a)", 120, 120},
		{"c1 c2 c3 c4 c5 c6", 720, 720},
		// All only read.
		{"r1(a) c1 r2(a) c2", 6, 6},
		{"r1(a) r1(b) c1 r2(b) r2(a) c2", 20, 20},
		{"r1(a) c1 r2(a) c2 r3(a) c3", 90, 90},
		{"r1(a) r1(b) r1(c) c1 r2(c) r2(b) r2(a) c2", 70, 70},
		// One pair at odds does not go around.
		{"w1(a) c1 w2(a) c2", 6, 6},
		{"r1(a) c1 w2(a) c2", 6, 6},
		{"w1(a) w1(b) c1 r2(b) r2(c) c2", 20, 20},
		// All of one deal is at odds with the other one's ops: both of its ops are ahead of both of the other's, and the commits anywhere behind.
		{"w1(a) w1(a) w2(a) w2(a)", 6, 6},
		{"w1(a) w1(a) c1 w2(a) w2(a) c2", 20, 8},
		{"r1(a) w1(a) c1 r2(a) w2(a) c2", 20, 8},
		{"r1(a) w1(a) r2(a) w2(a) c2 c1", 20, 8},
		{"w1(a) c1 w2(a) w2(a) c2", 10, 7},
		{"w1(a) w1(a) w1(a) c1 w2(a) w2(a) w2(a) c2", 70, 10},
		// One Write each does not go around, however many deals there are.
		{"w1(a) c1 w2(a) c2 w3(a) c3", 90, 90},
		{"w1(a) c1 w2(a) c2 w3(a) c3 w4(a) c4", 2520, 2520},
		// By two items it goes around just if both first ops are ahead of both second ones.
		{"r1(a) w1(b) c1 r2(b) w2(a) c2", 20, 8},
		{"w1(a) w1(b) c1 w2(b) w2(a) c2", 20, 8},
		// By two items in the same order it does just if both ops of the one are between those of the other.
		{"w1(a) w1(b) c1 w2(a) w2(b) c2", 20, 14},
		// Some abort, or do not end: they are in nobody's way.
		{"w1(a) w1(a) a1 w2(a) w2(a) c2", 20, 20},
		{"w1(a) w1(a) c1 w2(a) w2(a) a2", 20, 20},
		{"w1(a) w1(a) c1 w2(a) w2(a)", 10, 10},
		{"w1(a) w1(a) w2(a) w2(a) c2", 10, 10},
		{"w1(a) w1(a) c1 w2(a) w2(a) c2 a3", 140, 56},
		{"w1(a) w1(a) c1 w2(a) w2(a) c2 w3(a) a3", 560, 224},
		{"w1(a) w1(a) c1 w2(a) w2(a) c2 w3(a) w3(a)", 560, 224},
		{"w1(a) w1(a) c1 w2(a) w2(a) c2 w3(a) r4(a)", 1120, 448},
		// Nobody commits.
		{"w1(a) w1(a) w2(a) w2(a) w1(a) w2(a)", 20, 20},
		{"w1(a) w2(a) w1(a) w2(a) a1 a2", 20, 20},
		{"w1(a) w2(a) w1(a) w2(a) a1", 10, 10},
		// 8 ops.
		{"r2(a) w2(a) c2 w4(a) c4 r5(a) w5(b) a5", 560, 392},
		{"w1(a) w1(a) w2(a) w2(a) w3(a) w3(a) c4 c5", 5040, 5040},
		{"r1(a) r1(b) r2(a) r2(b) c3 c4 c5 c6", 10080, 10080},
	} {
		h := ops(t, k.text)
		if n, err := mix.Count(h); err != nil || n != k.count {
			t.Errorf("Count of %q: got %v %v, want %v", k.text, n, err, k.count)
		}
		if n, err := mix.Good(h); err != nil || n != k.good {
			t.Errorf("Good of %q: got %v %v, want %v", k.text, n, err, k.good)
		}
	}
}

// TestNth: M1, Nth: all orders of small histories, from the first to the last.
func TestNth(t *testing.T) {
	for _, k := range []struct {
		text   string
		orders []string
	}{
		{"", []string{""}},
		{"c3", []string{"c3"}},
		{"w5(b) r5(a) w5(b) a5", []string{"w5(b) r5(a) w5(b) a5"}},
		{"c2 c1", []string{"c1 c2", "c2 c1"}},
		{"w1(a) a6", []string{"w1(a) a6", "a6 w1(a)"}},
		{"r3(c) c1 w2(a)", []string{
			"c1 w2(a) r3(c)", "c1 r3(c) w2(a)",
			"w2(a) c1 r3(c)", "w2(a) r3(c) c1",
			"r3(c) c1 w2(a)", "r3(c) w2(a) c1",
		}},
		{"r6(a) w4(b) w6(c) c4", []string{
			"w4(b) c4 r6(a) w6(c)", "w4(b) r6(a) c4 w6(c)", "w4(b) r6(a) w6(c) c4",
			"r6(a) w4(b) c4 w6(c)", "r6(a) w4(b) w6(c) c4", "r6(a) w6(c) w4(b) c4",
		}},
		// Ops of one deal that are alike do not change places either: each order is there once.
		{"w2(a) w2(a) w1(a) w1(a)", []string{
			"w1(a) w1(a) w2(a) w2(a)", "w1(a) w2(a) w1(a) w2(a)", "w1(a) w2(a) w2(a) w1(a)",
			"w2(a) w1(a) w1(a) w2(a)", "w2(a) w1(a) w2(a) w1(a)", "w2(a) w2(a) w1(a) w1(a)",
		}},
		// They are sorted by deals, not by what they do, nor by items: 1's first op is the greater one of each.
		{"w1(f) r2(a) r1(a)", []string{"w1(f) r1(a) r2(a)", "w1(f) r2(a) r1(a)", "r2(a) w1(f) r1(a)"}},
		{"w1(f) r1(a) c3 r2(e)", []string{
			"w1(f) r1(a) r2(e) c3", "w1(f) r1(a) c3 r2(e)", "w1(f) r2(e) r1(a) c3",
			"w1(f) r2(e) c3 r1(a)", "w1(f) c3 r1(a) r2(e)", "w1(f) c3 r2(e) r1(a)",
			"r2(e) w1(f) r1(a) c3", "r2(e) w1(f) c3 r1(a)", "r2(e) c3 w1(f) r1(a)",
			"c3 w1(f) r1(a) r2(e)", "c3 w1(f) r2(e) r1(a)", "c3 r2(e) w1(f) r1(a)",
		}},
	} {
		h := ops(t, k.text)
		for at, want := range k.orders {
			if order, err := mix.Nth(h, at); err != nil || !slices.Equal(order, ops(t, want)) {
				t.Errorf("%d of %q: got %v %v, want %q", at, k.text, order, err, want)
			}
		}
		noMore(t, h, len(k.orders))
	}
}

// noMore holds that there are no orders beyond so many, and none below the first.
func noMore(t *testing.T, h []api.Op, n int) {
	t.Helper()
	for _, k := range []int{math.MinInt, math.MinInt + 1, math.MinInt32, -n - 1, -n, -1, n, n + 1, 2 * n, 1 << 32, 1<<32 + n - 1, math.MaxInt - 1, math.MaxInt} {
		if order, err := mix.Nth(h, k); plain.Told(err) != api.ErrRange || len(order) > 0 {
			t.Errorf("%d of %v: got %v %v, want %v", k, h, order, err, api.ErrRange)
		}
	}
}

// TestMemory: P2 and P4 of DOC.md: what is handed in stays, nothing behind its length is read or written, what comes out is fresh, and two calls tell the same.
func TestMemory(t *testing.T) {
	// With deal 2's commit behind the length fewer orders would be good, and with the last op it would be wrong.
	whole := append(ops(t, "w2(a) w1(a) w2(a) w1(a) c1"), commit(2), api.Op{Tx: -7, What: 99, Item: 5})
	was := slices.Clone(whole)
	h := whole[:5]
	var had [][]api.Op
	for range 3 {
		if n, err := mix.Count(h); err != nil || n != 10 {
			t.Fatalf("Count: got %v %v", n, err)
		}
		if n, err := mix.Good(h); err != nil || n != 10 {
			t.Fatalf("Good: got %v %v", n, err)
		}
		if n, err := mix.Good(whole[:6]); err != nil || n != 8 {
			t.Fatalf("Good, with a commit more: got %v %v", n, err)
		}
		refused(t, "with what is wrong", whole, api.ErrRange)
		for at, want := range []string{"w1(a) w1(a) c1 w2(a) w2(a)", "w1(a) w1(a) w2(a) c1 w2(a)"} {
			order, err := mix.Nth(h, at)
			if err != nil || !slices.Equal(order, ops(t, want)) {
				t.Fatalf("%d: got %v %v, want %q", at, order, err, want)
			}
			had = append(had, order)
		}
		if !slices.Equal(whole, was) {
			t.Fatalf("what was handed in is now %v", whole)
		}
	}
	for i, order := range had {
		clear(order[:cap(order)])
		for _, other := range had[i+1:] {
			if other[0] != write(1, 1) || len(other) != len(h) {
				t.Fatalf("what Nth gave is not its own: %v", other)
			}
		}
	}
	if !slices.Equal(whole, was) {
		t.Errorf("what Nth gave is not its own: %v", whole)
	}
	for _, none := range [][]api.Op{nil, {}, whole[:0]} {
		if n, err := mix.Count(none); err != nil || n != 1 {
			t.Errorf("Count of no ops: got %v %v", n, err)
		}
		if order, err := mix.Nth(none, 0); err != nil || len(order) > 0 {
			t.Errorf("Nth of no ops: got %v %v", order, err)
		}
		if n, err := mix.Good(none); err != nil || n != 1 {
			t.Errorf("Good of no ops: got %v %v", n, err)
		}
		noMore(t, none, 1)
	}
}

// TestOneDeal: P2 of DOC.md: where the one order there is is the history itself, it is still memory of its own.
func TestOneDeal(t *testing.T) {
	h := ops(t, "r1(a) w1(b) c1")
	order, err := mix.Nth(h, 0)
	if err != nil || !slices.Equal(order, h) {
		t.Fatalf("got %v %v", order, err)
	}
	clear(order[:cap(order)])
	if again, err := mix.Nth(h, 0); err != nil || !slices.Equal(again, ops(t, "r1(a) w1(b) c1")) {
		t.Errorf("what Nth gave is not its own: %v, %v %v", h, again, err)
	}
}
