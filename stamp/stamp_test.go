package stamp_test

import (
	"math"
	"slices"
	"strconv"
	"strings"
	"testing"

	"locklane/api"
	"locklane/history"
	"locklane/odds"
	"locklane/plain"
	"locklane/serial"
	"locklane/stamp"
	"locklane/view"
)

func read(tx, item int) api.Op  { return api.Op{Tx: tx, What: api.Read, Item: item} }
func write(tx, item int) api.Op { return api.Op{Tx: tx, What: api.Write, Item: item} }
func commit(tx int) api.Op      { return api.Op{Tx: tx, What: api.Commit} }
func abort(tx int) api.Op       { return api.Op{Tx: tx, What: api.Abort} }

// both: with leave, and without.
func both() []bool { return []bool{false, true} }

// ops of a text that is right.
func ops(t *testing.T, text string) []api.Op {
	t.Helper()
	h, err := history.Parse(text)
	if err != nil {
		t.Fatalf("%q: %v", text, err)
	}
	return h
}

// text of ops that are right.
func text(t *testing.T, h []api.Op) string {
	t.Helper()
	s, err := history.Print(h)
	if err != nil {
		t.Fatalf("%v: %v", h, err)
	}
	return s
}

func numbers(l []int) string {
	var w []string
	for _, n := range l {
		w = append(w, strconv.Itoa(n))
	}
	return strings.Join(w, ",")
}

// asked is what deals ask for, and what comes of it; of no text: just what was asked.
type asked struct{ ops, told, aborted string }

// goes holds what comes of ops against what should, and against the promise's words.
func goes(t *testing.T, leave bool, all []asked) {
	t.Helper()
	for _, k := range all {
		l := ops(t, k.ops)
		if k.told == "" {
			k.told = k.ops
		}
		h, aborted, err := stamp.Run(l, leave)
		if err != nil || text(t, h) != k.told || numbers(aborted) != k.aborted {
			t.Errorf("leave %v, %q: got %q %v %v, want %q %s", leave, k.ops, text(t, h), aborted, err, k.told, k.aborted)
		}
		byWords(t, l, leave)
	}
}

// alike: goes, with leave and without.
func alike(t *testing.T, all []asked) {
	t.Helper()
	for _, leave := range both() {
		goes(t, leave, all)
	}
}

// rich is n ops by which one is aborted, with leave and without.
func rich(n int) []api.Op {
	l := []api.Op{write(1, 1), write(3, 2), read(2, 2), read(3, 1), commit(1)}
	for len(l) < n {
		l = append(l, read(3, 1))
	}
	return l[:n]
}

// with is rich, and these ops behind it.
func with(more ...api.Op) []api.Op { return append(rich(5), more...) }

// but is rich, of n ops, of which one is another op.
func but(n, at int, o api.Op) []api.Op {
	l := rich(n)
	l[at] = o
	return l
}

// TestWrong: S1: Check's error is told, with leave and without, and nothing with it.
func TestWrong(t *testing.T) {
	for _, k := range []struct {
		name string
		l    []api.Op
		err  api.Errno
	}{
		{"one more than MaxOps", rich(api.MaxOps + 1), api.ErrFull},
		{"far more", rich(1000), api.ErrFull},
		{"too many, and one of no deal", but(api.MaxOps+1, 0, read(0, 1)), api.ErrFull},
		{"too many, and one behind its commit", but(api.MaxOps+1, api.MaxOps, read(1, 1)), api.ErrFull},
		{"first of MaxOps", but(api.MaxOps, 0, read(7, 1)), api.ErrRange},
		{"last of MaxOps", but(api.MaxOps, api.MaxOps-1, read(1, 0)), api.ErrRange},
		{"alone, of no deal", []api.Op{commit(0)}, api.ErrRange},
		{"deal 0", with(read(0, 1)), api.ErrRange},
		{"deal below 0", with(write(-1, 1)), api.ErrRange},
		{"deal beyond", with(commit(api.MaxTx + 1)), api.ErrRange},
		{"abort of a deal beyond", with(abort(api.MaxTx + 1)), api.ErrRange},
		{"greatest deal", with(read(math.MaxInt, 1)), api.ErrRange},
		{"least deal", with(commit(math.MinInt)), api.ErrRange},
		{"what 0", with(api.Op{Tx: 3, Item: 1}), api.ErrRange},
		{"what below 0", with(api.Op{Tx: 3, What: -1, Item: 1}), api.ErrRange},
		{"what beyond", with(api.Op{Tx: 3, What: api.Abort + 1}), api.ErrRange},
		{"item 0 read", with(read(3, 0)), api.ErrRange},
		{"item 0 written", with(write(3, 0)), api.ErrRange},
		{"item below 0", with(write(3, -1)), api.ErrRange},
		{"item beyond", with(read(3, api.MaxItem+1)), api.ErrRange},
		{"greatest item", with(write(3, math.MaxInt)), api.ErrRange},
		{"least item", with(read(3, math.MinInt)), api.ErrRange},
		{"commit of an item", with(api.Op{Tx: 3, What: api.Commit, Item: 1}), api.ErrRange},
		{"abort of an item", with(api.Op{Tx: 3, What: api.Abort, Item: 1}), api.ErrRange},
		{"of one that is aborted, an item beyond", with(write(2, api.MaxItem+1)), api.ErrRange},
		{"behind its commit", with(read(1, 1)), api.ErrState},
		{"behind its abort", with(abort(3), write(3, 1)), api.ErrState},
		{"commit twice", with(commit(1)), api.ErrState},
		{"abort twice", with(abort(3), abort(3)), api.ErrState},
		{"abort, then commit", with(abort(3), commit(3)), api.ErrState},
		{"of one that is aborted, behind its commit", with(commit(2), read(2, 1)), api.ErrState},
		{"of one that is aborted, behind its abort", with(abort(2), abort(2)), api.ErrState},
		{"alone, commit twice", []api.Op{commit(1), commit(1)}, api.ErrState},
		{"range, then state", with(read(0, 1), read(1, 1)), api.ErrRange},
		{"state, then range", with(read(1, 1), read(0, 1)), api.ErrState},
	} {
		for _, leave := range both() {
			if h, aborted, err := stamp.Run(k.l, leave); plain.Told(err) != k.err || len(h) > 0 || len(aborted) > 0 {
				t.Errorf("%s, leave %v: got %v %v %v, want %v", k.name, leave, h, aborted, err, k.err)
			}
		}
	}
}

// TestInPeace: S1: where nobody of a greater number is in the way, all is told as it was asked.
func TestInPeace(t *testing.T) {
	for _, leave := range both() {
		for _, none := range [][]api.Op{nil, {}} {
			if h, aborted, err := stamp.Run(none, leave); len(h) > 0 || len(aborted) > 0 || err != nil {
				t.Errorf("no ops, leave %v: got %v %v %v", leave, h, aborted, err)
			}
		}
	}
	alike(t, []asked{
		{"", "", ""},
		// Ends that deals ask for themselves.
		{"c1", "", ""},
		{"a6", "", ""},
		{"c6 a5 c4 a1", "", ""},
		{"r1(a) w1(b) a1 r2(a) c2", "", ""},
		{"r6(a)", "", ""},
		{"w6(f)", "", ""},
		// One behind the other, rising, whether they commit, abort, or neither.
		{"w1(a) r1(b) c1 r2(a) w2(b) c2 w3(b) r3(a) c3", "", ""},
		{"w1(a) a1 w2(a) a2 r3(a) a3 w4(a) w5(a) r6(a)", "", ""},
		{"r1(a) r2(a) r3(a) w4(a) w5(a) r5(a) r6(a) w6(a)", "", ""},
		// Of a lesser number: by turns too, if it is ahead at each item.
		{"w1(a) w2(a) w1(b) w2(b) c1 c2", "", ""},
		{"w1(a) r2(a) w1(b) r2(b) c2 c1", "", ""},
		{"r1(a) w2(a) r1(b) w2(b) c2 c1", "", ""},
		{"w1(a) r1(a) w5(a) r5(a) c5 c1 r6(a)", "", ""},
		// Nobody did: unlike items, falling.
		{"w6(a) w5(b) r4(c) r3(d) w2(e) r1(f) c6 c5 c4 c3 c2 c1", "", ""},
		{"w6(f) r5(e) w1(a) r1(d) w1(b) c1", "", ""},
		// Reads beside Reads, falling.
		{"r6(a) r5(a) r1(a) r6(a) r1(a) c1 c5 c6", "", ""},
		// The deal itself did, in both orders, and again.
		{"r3(a) w3(a) c3", "", ""},
		{"w3(a) r3(a) c3", "", ""},
		{"r1(a) r1(a) w1(a) w1(a) r1(a) w1(a) c1", "", ""},
		{"w6(f) w6(f) r6(f) r6(f) w6(f) r6(f) a6", "", ""},
		// The deal itself, behind one of a lesser number.
		{"r1(a) w1(a) w2(a) r2(a) w2(a) r2(a) c1 c2", "", ""},
	})
}

// TestRead: S1: a Read of what one of a greater number did, or did not.
func TestRead(t *testing.T) {
	alike(t, []asked{
		// It wrote the item: just beyond, and far; it has ended, or has not.
		{"w2(a) r1(a)", "w2(a) a1", "1"},
		{"w6(f) r1(f)", "w6(f) a1", "1"},
		{"w6(a) r5(a) c5 c6", "w6(a) a5 c6", "5"},
		{"w2(a) c2 r1(a) c1", "w2(a) c2 a1", "1"},
		{"w2(a) a2 r1(a) c1", "w2(a) a2 a1", "1"},
		// It read it; both; neither.
		{"r2(a) r1(a) c1 c2", "", ""},
		{"r2(a) w2(a) r1(a) c1 c2", "r2(a) w2(a) a1 c2", "1"},
		{"w2(a) r2(a) r1(a) c1 c2", "w2(a) r2(a) a1 c2", "1"},
		{"w2(b) r2(c) r1(a) c1 c2", "", ""},
		// Another one of a greater number read it, or wrote it.
		{"w2(a) r3(a) r1(a) c1", "w2(a) r3(a) a1", "1"},
		{"r2(a) w3(a) r1(a) c1", "r2(a) w3(a) a1", "1"},
		// The deal itself did, and then one of a greater number.
		{"w1(a) w2(a) r1(a) c1 c2", "w1(a) w2(a) a1 c2", "1"},
		{"r1(a) w2(a) r1(a) c1 c2", "r1(a) w2(a) a1 c2", "1"},
		{"w1(a) r2(a) r1(a) c1 c2", "", ""},
		// One of a lesser number did, before or behind one of a greater number.
		{"w1(a) w3(a) r2(a) c2", "w1(a) w3(a) a2", "2"},
		{"w1(a) r3(a) r2(a) c2", "", ""},
		{"w1(a) r2(a) w3(a) r4(a) c2", "", ""},
		// The greatest that wrote it counts, whoever did in between.
		{"w1(a) w2(a) w5(a) w6(a) r4(a) r6(a)", "w1(a) w2(a) w5(a) w6(a) a4 r6(a)", "4"},
		// Each item by itself.
		{"w2(a) r1(b) r1(c) r1(a) r1(d)", "w2(a) r1(b) r1(c) a1", "1"},
		{"w2(b) w2(d) r1(a) r1(c) r1(e) c1", "", ""},
	})
}

// TestWrite: S1: a Write of what one of a greater number read, with leave and without.
func TestWrite(t *testing.T) {
	alike(t, []asked{
		// It read the item: just beyond, and far; it has ended, or has not.
		{"r2(a) w1(a)", "r2(a) a1", "1"},
		{"r6(f) w1(f)", "r6(f) a1", "1"},
		{"r6(a) w5(a) c5 c6", "r6(a) a5 c6", "5"},
		{"r2(a) c2 w1(a) c1", "r2(a) c2 a1", "1"},
		{"r2(a) a2 w1(a) c1", "r2(a) a2 a1", "1"},
		// Both, in each order: what was read is looked at first.
		{"r2(a) w2(a) w1(a) c1 c2", "r2(a) w2(a) a1 c2", "1"},
		{"w2(a) r2(a) w1(a) c1 c2", "w2(a) r2(a) a1 c2", "1"},
		{"r2(a) w3(a) w1(a) c1", "r2(a) w3(a) a1", "1"},
		{"w2(a) r3(a) w1(a) c1", "w2(a) r3(a) a1", "1"},
		// Neither.
		{"r2(b) w2(c) w1(a) c1 c2", "", ""},
		// The deal itself did, and then one of a greater number read it.
		{"w1(a) r2(a) w1(a) c1 c2", "w1(a) r2(a) a1 c2", "1"},
		{"r1(a) r2(a) w1(a) c1 c2", "r1(a) r2(a) a1 c2", "1"},
		// One of a lesser number reads it behind one of a greater number: that one still counts.
		{"r3(a) r1(a) w2(a) c2", "r3(a) r1(a) a2", "2"},
		{"r1(a) r3(a) w2(a) c2", "r1(a) r3(a) a2", "2"},
		{"r3(a) r1(a) r3(a) r2(a) w3(a) c3", "", ""},
		// Each item by itself.
		{"r2(a) w1(b) w1(c) w1(a) w1(d)", "r2(a) w1(b) w1(c) a1", "1"},
		{"r2(b) r2(d) w1(a) w1(c) w1(e) c1", "", ""},
	})
}

// TestLeave: S1: a Write of what one of a greater number wrote, and nobody of a greater number read: what is told with leave, and without.
func TestLeave(t *testing.T) {
	type told struct{ told, aborted string }
	for _, k := range []struct {
		ops        string
		left, fell told
	}{
		{"w2(a) w1(a)", told{"w2(a)", ""}, told{"w2(a) a1", "1"}},
		{"w6(f) w1(f)", told{"w6(f)", ""}, told{"w6(f) a1", "1"}},
		{"w6(a) w5(a) c5 c6", told{"w6(a) c5 c6", ""}, told{"w6(a) a5 c6", "5"}},
		{"w2(a) c2 w1(a) c1", told{"w2(a) c2 c1", ""}, told{"w2(a) c2 a1", "1"}},
		{"w2(a) a2 w1(a) a1", told{"w2(a) a2 a1", ""}, told{"w2(a) a2 a1", "1"}},
		// Its deal goes on.
		{"w2(a) w1(a) w1(b) r1(c) c1", told{"w2(a) w1(b) r1(c) c1", ""}, told{"w2(a) a1", "1"}},
		{"w2(a) w1(a) w1(a) w1(b) w1(a) c1", told{"w2(a) w1(b) c1", ""}, told{"w2(a) a1", "1"}},
		{"w2(a) w1(a) r1(a) c1", told{"w2(a) a1", "1"}, told{"w2(a) a1", "1"}},
		// The deal itself wrote it, or read it, and then one of a greater number wrote it.
		{"w1(a) w2(a) w1(a) c1", told{"w1(a) w2(a) c1", ""}, told{"w1(a) w2(a) a1", "1"}},
		{"r1(a) w2(a) w1(a) c1", told{"r1(a) w2(a) c1", ""}, told{"r1(a) w2(a) a1", "1"}},
		{"w1(a) r2(a) w3(a) w2(a) c2", told{"w1(a) r2(a) w3(a) c2", ""}, told{"w1(a) r2(a) w3(a) a2", "2"}},
		// One of a lesser number read it, or wrote it, ahead of that.
		{"r1(a) w3(a) w2(a) c2", told{"r1(a) w3(a) c2", ""}, told{"r1(a) w3(a) a2", "2"}},
		{"w1(a) w3(a) w2(a) c2", told{"w1(a) w3(a) c2", ""}, told{"w1(a) w3(a) a2", "2"}},
		// A Write that is left out, then a Read and a Write of that item by others: it is as if nobody had asked for it.
		{"w3(a) w2(a) r1(a) c1", told{"w3(a) a1", "1"}, told{"w3(a) a2 a1", "2,1"}},
		{"w3(a) w2(a) r4(a) c4", told{"w3(a) r4(a) c4", ""}, told{"w3(a) a2 r4(a) c4", "2"}},
		{"w3(a) w2(a) r3(a) c3", told{"w3(a) r3(a) c3", ""}, told{"w3(a) a2 r3(a) c3", "2"}},
		{"w4(a) w2(a) r3(a) c3", told{"w4(a) a3", "3"}, told{"w4(a) a2 a3", "2,3"}},
		{"w3(a) w2(a) w4(a) c4", told{"w3(a) w4(a) c4", ""}, told{"w3(a) a2 w4(a) c4", "2"}},
		{"w3(a) w2(a) w3(a) c3", told{"w3(a) w3(a) c3", ""}, told{"w3(a) a2 w3(a) c3", "2"}},
		{"w4(a) w2(a) w3(a) c3", told{"w4(a) c3", ""}, told{"w4(a) a2 a3", "2,3"}},
		{"w3(a) w2(a) w1(a) c1", told{"w3(a) c1", ""}, told{"w3(a) a2 a1", "2,1"}},
		{"w3(a) w2(a) r4(a) w1(a) w3(a)", told{"w3(a) r4(a) a1 a3", "1,3"}, told{"w3(a) a2 r4(a) a1 a3", "2,1,3"}},
		// One behind the other, falling.
		{"w3(a) c3 w2(a) c2 w1(a) c1", told{"w3(a) c3 c2 c1", ""}, told{"w3(a) c3 a2 a1", "2,1"}},
		{"w6(a) w5(a) w4(a) w3(a) w2(a) w1(a)", told{"w6(a)", ""}, told{"w6(a) a5 a4 a3 a2 a1", "5,4,3,2,1"}},
		// Who is aborted by a Read has not read: it does not stand in the way.
		{"w3(a) r2(a) w1(a) c1", told{"w3(a) a2 c1", "2"}, told{"w3(a) a2 a1", "2,1"}},
		// Who wrote it was aborted since: that still counts.
		{"w2(a) w3(b) r2(b) w1(a) c1", told{"w2(a) w3(b) a2 c1", "2"}, told{"w2(a) w3(b) a2 a1", "2,1"}},
		// Each item by itself.
		{"w2(a) w1(b) w1(c) w1(a) w1(d)", told{"w2(a) w1(b) w1(c) w1(d)", ""}, told{"w2(a) w1(b) w1(c) a1", "1"}},
		{"w3(a) r3(b) w2(a) r1(b) w1(a)", told{"w3(a) r3(b) r1(b)", ""}, told{"w3(a) r3(b) a2 r1(b) a1", "2,1"}},
	} {
		goes(t, true, []asked{{k.ops, k.left.told, k.left.aborted}})
		goes(t, false, []asked{{k.ops, k.fell.told, k.fell.aborted}})
	}
}

// TestAborted: S1: what comes of who is aborted, and of others.
func TestAborted(t *testing.T) {
	alike(t, []asked{
		// In the place of the op, ahead of what others ask behind it.
		{"r1(b) w3(a) r2(c) r2(a) r1(c) w3(b) c3", "r1(b) w3(a) r2(c) a2 r1(c) w3(b) c3", "2"},
		{"r1(b) r3(a) r2(c) w2(a) r1(c) w3(b) c3", "r1(b) r3(a) r2(c) a2 r1(c) w3(b) c3", "2"},
		// What it asks later is left out: a Read, a Write, a Commit, an Abort; what would have it aborted again.
		{"w2(a) r1(a) r1(b) c2", "w2(a) a1 c2", "1"},
		{"w2(a) r1(a) w1(b) c2", "w2(a) a1 c2", "1"},
		{"w2(a) r1(a) c1 c2", "w2(a) a1 c2", "1"},
		{"w2(a) r1(a) a1 c2", "w2(a) a1 c2", "1"},
		{"w2(a) r2(b) r1(a) r1(a) w1(b) r1(c) w1(d) c2 c1", "w2(a) r2(b) a1 c2", "1"},
		// What is left out so leaves no mark.
		{"w3(a) r2(a) r2(b) w1(b) c1", "w3(a) a2 w1(b) c1", "2"},
		{"w3(a) r2(a) w2(b) r1(b) w1(b) c1", "w3(a) a2 r1(b) w1(b) c1", "2"},
		{"r3(a) w2(a) r2(b) w2(c) r1(c) w1(b) c2 c1", "r3(a) a2 r1(c) w1(b) c1", "2"},
		// Nor does the op for which it is aborted.
		{"r3(a) w2(a) r1(a) c1", "r3(a) a2 r1(a) c1", "2"},
		// What was kept of it stays, and stands in the way: it wrote, it read; it comes to be aborted later, and elsewhere.
		{"w2(b) w3(a) r2(a) r1(b) c1", "w2(b) w3(a) a2 a1", "2,1"},
		{"r2(b) w3(a) r2(a) w1(b) c1", "r2(b) w3(a) a2 a1", "2,1"},
		{"r2(b) w2(c) r3(a) w2(a) r1(c) w1(b) c1", "r2(b) w2(c) r3(a) a2 a1", "2,1"},
		{"w2(b) w3(a) r2(a) r3(b) w3(b) c3", "w2(b) w3(a) a2 r3(b) w3(b) c3", "2"},
		// So does what is kept of those that ask for an Abort, or a Commit: they are not told among the aborted.
		{"w2(b) a2 r1(b) a1", "w2(b) a2 a1", "1"},
		{"r2(b) a2 w1(b) c1", "r2(b) a2 a1", "1"},
		{"r2(b) w2(c) c2 r1(b) r1(c)", "r2(b) w2(c) c2 r1(b) a1", "1"},
		{"w1(a) a1 r2(a) a2 c3 a4", "", ""},
		// One behind the other, falling.
		{"w3(a) r3(a) c3 r2(a) w2(a) c2 w1(a) r1(a) c1", "w3(a) r3(a) c3 a2 a1", "2,1"},
		{"r3(a) w3(a) c3 w2(a) r2(a) c2 r1(a) w1(a) c1", "r3(a) w3(a) c3 a2 a1", "2,1"},
		// Several, each once, as that came: rising, falling, mixed, by Reads and Writes, at one item and several.
		{"w6(a) r1(a) r2(a) r3(a) r4(a) r5(a) c6", "w6(a) a1 a2 a3 a4 a5 c6", "1,2,3,4,5"},
		{"w6(a) r5(a) r4(a) r3(a) r2(a) r1(a) c6", "w6(a) a5 a4 a3 a2 a1 c6", "5,4,3,2,1"},
		{"r6(a) w3(a) w5(a) w1(a) w4(a) w2(a) c6", "r6(a) a3 a5 a1 a4 a2 c6", "3,5,1,4,2"},
		{"w6(a) r5(b) r3(a) w4(b) r2(a) w1(b) r5(a)", "w6(a) r5(b) a3 a4 a2 a1 a5", "3,4,2,1,5"},
		{"w4(a) r2(a) w4(b) w2(b) r3(b) c2 r1(a) c3 c1", "w4(a) a2 w4(b) a3 a1", "2,3,1"},
		// The greatest deal is never aborted, as nobody is of a greater number.
		{"w5(a) r5(a) w6(a) r6(a) w6(a) r6(b) w6(b) c6 r5(a)", "w5(a) r5(a) w6(a) r6(a) w6(a) r6(b) w6(b) c6 a5", "5"},
	})
}

// TestMost: S1 at MaxOps ops, all of which are told, and of which few are.
func TestMost(t *testing.T) {
	var rising, falling []api.Op
	for at := range api.MaxOps {
		rising = append(rising, write(at*api.MaxTx/api.MaxOps+1, at%api.MaxItem+1))
		falling = append(falling, write(api.MaxTx-at*api.MaxTx/api.MaxOps, api.MaxItem))
	}
	alone := slices.IndexFunc(falling, func(o api.Op) bool { return o.Tx < api.MaxTx })
	left := falling[:alone]
	fell := slices.Concat(left, []api.Op{abort(5), abort(4), abort(3), abort(2), abort(1)})
	for _, k := range []struct {
		l, told []api.Op
		leave   bool
		aborted string
	}{
		{rising, rising, false, ""},
		{rising, rising, true, ""},
		{falling, fell, false, "5,4,3,2,1"},
		{falling, left, true, ""},
	} {
		h, aborted, err := stamp.Run(k.l, k.leave)
		if err != nil || !slices.Equal(h, k.told) || numbers(aborted) != k.aborted {
			t.Errorf("leave %v, %q: got %q %v %v", k.leave, text(t, k.l), text(t, h), aborted, err)
		}
		byWords(t, k.l, k.leave)
	}
}

// TestMemory: P2 and P4 of DOC.md.
func TestMemory(t *testing.T) {
	const in = "w3(a) r1(b) r2(a) r2(c) w5(b) w4(b) r4(d) r1(a) c2 c3 c1"
	for _, leave := range both() {
		whole := append(ops(t, in), read(0, 0), commit(1), api.Op{Tx: 9, What: 9, Item: 9})
		kept := slices.Clone(whole)
		n := len(whole) - 3
		first, fell, err := stamp.Run(whole[:n], leave)
		if err != nil || len(first) == 0 || len(fell) < 2 {
			t.Fatalf("leave %v: got %v %v %v", leave, first, fell, err)
		}
		h, aborted := slices.Clone(first), slices.Clone(fell)
		clear(first[:cap(first)])
		clear(fell[:cap(fell)])
		if !slices.Equal(whole, kept) {
			t.Fatalf("leave %v: what was handed in is now %v", leave, whole)
		}
		second, again, err := stamp.Run(whole[:n], leave)
		if err != nil || !slices.Equal(second, h) || !slices.Equal(again, aborted) {
			t.Errorf("leave %v: got %v %v %v, want %v %v", leave, second, again, err, h, aborted)
		}
		clear(whole)
		if !slices.Equal(second, h) || !slices.Equal(again, aborted) {
			t.Errorf("leave %v: what was told is now %v %v", leave, second, again)
		}
	}
}

// causes: how often each thing came to be.
type causes struct{ late, read, over, left, silent int }

// run of right ops, as the promise's words have it: nothing is kept, but read off all that was told.
func run(l []api.Op, leave bool) (h []api.Op, aborted []int, c causes) {
	for _, o := range l {
		greater := func(what int) bool {
			return slices.ContainsFunc(h, func(p api.Op) bool { return p.Item == o.Item && p.What == what && p.Tx > o.Tx })
		}
		fall := func(why *int) {
			*why++
			aborted = append(aborted, o.Tx)
			h = append(h, abort(o.Tx))
		}
		switch {
		case slices.Contains(aborted, o.Tx):
			c.silent++
		case o.What == api.Read && greater(api.Write):
			fall(&c.late)
		case o.What == api.Write && greater(api.Read):
			fall(&c.read)
		case o.What == api.Write && greater(api.Write) && leave:
			c.left++
		case o.What == api.Write && greater(api.Write):
			fall(&c.over)
		default:
			h = append(h, o)
		}
	}
	return h, aborted, c
}

// byWords holds what is told of right ops against the promise's words, and against what is to be true of the whole.
func byWords(t *testing.T, l []api.Op, leave bool) causes {
	t.Helper()
	h, aborted, err := stamp.Run(l, leave)
	want, fell, c := run(l, leave)
	if err != nil || !slices.Equal(h, want) || !slices.Equal(aborted, fell) {
		t.Fatalf("leave %v, %q: got %q %v %v, want %q %v", leave, text(t, l), text(t, h), aborted, err, text(t, want), fell)
	}
	inLine(t, h)
	again(t, h)
	if allCommit(h) {
		asOneByOne(t, l, h)
	}
	return c
}

// inLine: what is told is as if deals had come by their numbers.
func inLine(t *testing.T, h []api.Op) {
	t.Helper()
	pairs, err := odds.Pairs(h)
	if err != nil {
		t.Fatalf("%v: %v", h, err)
	}
	for _, p := range pairs {
		if h[p.From].Tx > h[p.To].Tx {
			t.Fatalf("%q: %d and %d are not by their numbers", text(t, h), p.From, p.To)
		}
	}
	if order, err := serial.Order(h); err != nil || !slices.IsSorted(order) {
		t.Fatalf("%q: the order is %v %v", text(t, h), order, err)
	}
}

// again: if what is told is what deals ask for, nobody is aborted, with leave and without.
func again(t *testing.T, h []api.Op) {
	t.Helper()
	for _, leave := range both() {
		if g, aborted, err := stamp.Run(h, leave); err != nil || !slices.Equal(g, h) || len(aborted) > 0 {
			t.Fatalf("leave %v, %q: got %q %v %v", leave, text(t, h), text(t, g), aborted, err)
		}
	}
}

// allCommit tells whether all deals of a history do.
func allCommit(h []api.Op) bool {
	done, _ := history.Done(h)
	return len(done) == len(h)
}

// asOneByOne: where all commit, each Read reads from whom it would, and items are left by whom they would be, if all that was asked came deal by deal: what is left out is missed by nobody.
func asOneByOne(t *testing.T, l, h []api.Op) {
	t.Helper()
	deals, err := history.Deals(h)
	if err != nil {
		t.Fatalf("%q: %v", text(t, h), err)
	}
	s, err := serial.Serial(l, deals)
	if err != nil {
		t.Fatalf("%q by %v: %v", text(t, l), deals, err)
	}
	was, _ := view.Last(s)
	is, _ := view.Last(h)
	if !slices.Equal(was, is) || !slices.Equal(reads(s), reads(h)) {
		t.Fatalf("%q: told %q, which is not as %q", text(t, l), text(t, h), text(t, s))
	}
}

// reads of a history in which all commit: who reads what from whom, deal by deal.
func reads(h []api.Op) []api.Seen {
	var seen []api.Seen
	from, _ := view.Reads(h)
	for _, s := range from {
		seen = append(seen, api.Seen{Tx: h[s.At].Tx, Item: h[s.At].Item, From: s.From})
	}
	slices.SortStableFunc(seen, func(a, b api.Seen) int { return a.Tx - b.Tx })
	return seen
}

// over tells whether a deal ends.
func over(h []api.Op, tx int) bool {
	return slices.Contains(h, commit(tx)) || slices.Contains(h, abort(tx))
}

// grow goes over all ops of at most n, each of which is one of these, and whose deals are done with an end.
func grow(n int, some []api.Op, see func(l []api.Op)) {
	var l []api.Op
	var more func()
	more = func() {
		see(l)
		if len(l) == n {
			return
		}
		for _, o := range some {
			if !over(l, o.Tx) {
				l = append(l, o)
				more()
				l = l[:len(l)-1]
			}
		}
	}
	more()
}

// TestSmall: S1: all ops of few deals on few items, as they are, and where all commit at last.
func TestSmall(t *testing.T) {
	for _, k := range []struct{ deals, items, n int }{{2, 1, 5}, {2, 2, 4}, {3, 1, 4}, {3, 2, 3}} {
		var some []api.Op
		for tx := 1; tx <= k.deals; tx++ {
			for item := 1; item <= k.items; item++ {
				some = append(some, read(tx, item), write(tx, item))
			}
			some = append(some, commit(tx), abort(tx))
		}
		grow(k.n, some, func(l []api.Op) {
			all := slices.Clone(l)
			for tx := 1; tx <= k.deals; tx++ {
				if !over(l, tx) {
					all = append(all, commit(tx))
				}
			}
			for _, leave := range both() {
				byWords(t, l, leave)
				byWords(t, all, leave)
			}
		})
	}
}

// roller gives numbers below n, by a rule that mixes them.
func roller() func(n int) int {
	mixed := uint64(1)
	return func(n int) int {
		mixed = mixed*6364136223846793005 + 1442695040888963407
		return int(mixed>>33) % n
	}
}

// mixed ops of up to six deals on up to six items: each deal asks for some, and then mostly to end, by turns.
func mixed(roll func(int) int) []api.Op {
	deals, items := roll(api.MaxTx-1)+2, roll(api.MaxItem)+1
	var left [][]api.Op
	for tx := 1; tx <= deals; tx++ {
		var some []api.Op
		for range roll(api.MaxOps / deals) {
			some = append(some, api.Op{Tx: tx, What: roll(2) + 1, Item: roll(items) + 1})
		}
		if end := roll(9); end > 0 {
			some = append(some, api.Op{Tx: tx, What: api.Commit + end/8})
		}
		left = append(left, some)
	}
	var l []api.Op
	for len(left) > 0 {
		at := roll(len(left))
		if len(left[at]) == 0 {
			left = slices.Delete(left, at, at+1)
			continue
		}
		l = append(l, left[at][0])
		left[at] = left[at][1:]
	}
	return l
}

// TestGreat: S1: many ops, mixed.
func TestGreat(t *testing.T) {
	roll := roller()
	var sum causes
	whole := 0
	for range 8_000 {
		l := mixed(roll)
		for _, leave := range both() {
			c := byWords(t, l, leave)
			sum.late += c.late
			sum.read += c.read
			sum.over += c.over
			sum.left += c.left
			sum.silent += c.silent
			if h, _, _ := stamp.Run(l, leave); c.left > 0 && allCommit(h) {
				whole++
			}
		}
	}
	if min(sum.late, sum.read, sum.over, sum.left, sum.silent) < 1_000 || whole < 50 {
		t.Errorf("%+v, %d left out where all commit: too few to tell", sum, whole)
	}
}
