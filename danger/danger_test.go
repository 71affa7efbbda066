package danger_test

import (
	"cmp"
	"math"
	"slices"
	"strconv"
	"strings"
	"testing"

	"locklane/api"
	"locklane/danger"
	"locklane/graph"
	"locklane/history"
	"locklane/plain"
	"locklane/serial"
	"locklane/snap"
)

func read(tx, item int) api.Op  { return api.Op{Tx: tx, What: api.Read, Item: item} }
func write(tx, item int) api.Op { return api.Op{Tx: tx, What: api.Write, Item: item} }
func commit(tx int) api.Op      { return api.Op{Tx: tx, What: api.Commit} }
func abort(tx int) api.Op       { return api.Op{Tx: tx, What: api.Abort} }

// ops of a text that is right.
func ops(t *testing.T, text string) []api.Op {
	t.Helper()
	l, err := history.Parse(text)
	if err != nil {
		t.Fatalf("%q: %v", text, err)
	}
	return l
}

// text of ops that are right.
func text(t *testing.T, l []api.Op) string {
	t.Helper()
	s, err := history.Print(l)
	if err != nil {
		t.Fatalf("%v: %v", l, err)
	}
	return s
}

// letter of an item.
func letter(item int) string { return string(rune('a' + item - 1)) }

// dealWords of deals: `1 2`.
func dealWords(deals []int) string {
	var all []string
	for _, tx := range deals {
		all = append(all, strconv.Itoa(tx))
	}
	return strings.Join(all, " ")
}

// edgeWords of edges: `1-2 3-1`.
func edgeWords(edges []api.Edge) string {
	var all []string
	for _, e := range edges {
		all = append(all, strconv.Itoa(e.From)+"-"+strconv.Itoa(e.To))
	}
	return strings.Join(all, " ")
}

// words of an outcome: `1 2`, `1a0 2b2` (1 read a from nobody, 2 read b from itself), `a2 b1` (2 wrote a last, 1 wrote b last).
func words(out api.Outcome) (done, seen, last string) {
	var s, l []string
	for _, r := range out.Seen {
		s = append(s, strconv.Itoa(r.Tx)+letter(r.Item)+strconv.Itoa(r.From))
	}
	for at, tx := range out.Last {
		if tx != 0 {
			l = append(l, letter(at+1)+strconv.Itoa(tx))
		}
	}
	return dealWords(out.Done), strings.Join(s, " "), strings.Join(l, " ")
}

// equal tells whether outcomes are, an empty list and nil being the same.
func equal(a, b api.Outcome) bool {
	return slices.Equal(a.Done, b.Done) && slices.Equal(a.Seen, b.Seen) && slices.Equal(a.Last, b.Last)
}

func clone(out api.Outcome) api.Outcome {
	return api.Outcome{Done: slices.Clone(out.Done), Seen: slices.Clone(out.Seen), Last: slices.Clone(out.Last)}
}

// asked is what deals ask for, and what Edges, Pivots and Run tell of it, as edgeWords, dealWords and words have it.
type asked struct{ ops, edges, pivots, done, seen, last string }

// goes holds what comes of ops against what should, and against the promises' words.
func goes(t *testing.T, all []asked) {
	t.Helper()
	for _, k := range all {
		l := ops(t, k.ops)
		edges, err := danger.Edges(l)
		if err != nil || edgeWords(edges) != k.edges {
			t.Errorf("%q: edges: got %q %v, want %q", k.ops, edgeWords(edges), err, k.edges)
		}
		pivots, err := danger.Pivots(l)
		if err != nil || dealWords(pivots) != k.pivots {
			t.Errorf("%q: pivots: got %q %v, want %q", k.ops, dealWords(pivots), err, k.pivots)
		}
		out, err := danger.Run(l)
		done, seen, last := words(out)
		if err != nil || done != k.done || seen != k.seen || last != k.last {
			t.Errorf("%q: got %q %q %q %v, want %q %q %q", k.ops, done, seen, last, err, k.done, k.seen, k.last)
		}
		byWords(t, l)
	}
}

// rich is n ops by which 1 and 2 read what the other one writes, 2 is aborted by Run alone, 4 by chapter 12 too.
func rich(n int) []api.Op {
	l := []api.Op{read(1, 1), read(2, 2), write(1, 2), write(2, 1), write(4, 2), commit(1), commit(2), commit(4), read(3, 1)}
	for len(l) < n {
		l = append(l, write(3, 2))
	}
	return l[:n]
}

// with is rich, and these ops behind it.
func with(more ...api.Op) []api.Op { return append(rich(9), more...) }

// but is rich, of n ops, of which one is another op.
func but(n, at int, o api.Op) []api.Op {
	l := rich(n)
	l[at] = o
	return l
}

// TestWrong: D1 and D2: Check's error is told of all three, and nothing with it.
func TestWrong(t *testing.T) {
	for _, k := range []struct {
		name string
		l    []api.Op
		err  api.Errno
	}{
		{"one more than MaxOps", rich(api.MaxOps + 1), api.ErrFull},
		{"far more", rich(1000), api.ErrFull},
		{"too many, and one of no deal", but(api.MaxOps+1, 0, read(0, 1)), api.ErrFull},
		{"too many, and one behind its commit", but(api.MaxOps+1, api.MaxOps, read(1, 1)), api.ErrFull},
		{"first of MaxOps", but(api.MaxOps, 0, read(7, 1)), api.ErrRange},
		{"last of MaxOps", but(api.MaxOps, api.MaxOps-1, read(1, 0)), api.ErrRange},
		{"alone, of no deal", []api.Op{commit(0)}, api.ErrRange},
		{"deal 0", with(read(0, 1)), api.ErrRange},
		{"deal below 0", with(write(-1, 1)), api.ErrRange},
		{"deal beyond", with(commit(api.MaxTx + 1)), api.ErrRange},
		{"abort of a deal beyond", with(abort(api.MaxTx + 1)), api.ErrRange},
		{"greatest deal", with(read(math.MaxInt, 1)), api.ErrRange},
		{"least deal", with(commit(math.MinInt)), api.ErrRange},
		{"what 0", with(api.Op{Tx: 3, Item: 1}), api.ErrRange},
		{"what below 0", with(api.Op{Tx: 3, What: -1, Item: 1}), api.ErrRange},
		{"what beyond", with(api.Op{Tx: 3, What: api.Abort + 1}), api.ErrRange},
		{"item 0 read", with(read(3, 0)), api.ErrRange},
		{"item 0 written", with(write(3, 0)), api.ErrRange},
		{"item below 0", with(write(3, -1)), api.ErrRange},
		{"item beyond", with(read(3, api.MaxItem+1)), api.ErrRange},
		{"greatest item", with(write(3, math.MaxInt)), api.ErrRange},
		{"least item", with(read(3, math.MinInt)), api.ErrRange},
		{"commit of an item", with(api.Op{Tx: 3, What: api.Commit, Item: 1}), api.ErrRange},
		{"abort of an item", with(api.Op{Tx: 3, What: api.Abort, Item: 1}), api.ErrRange},
		{"behind its commit", with(read(1, 1)), api.ErrState},
		{"behind its abort", with(abort(3), write(3, 1)), api.ErrState},
		{"commit twice", with(commit(1)), api.ErrState},
		{"abort twice", with(abort(3), abort(3)), api.ErrState},
		{"abort, then commit", with(abort(3), commit(3)), api.ErrState},
		{"of one that is aborted by Run at its commit, a read", with(read(2, 1)), api.ErrState},
		{"of one that is aborted by Run at its commit, a commit again", with(commit(2)), api.ErrState},
		{"of one that is aborted by Run at its commit, an abort", with(abort(2)), api.ErrState},
		{"of one that is aborted by chapter 12 at its commit, a commit again", with(commit(4)), api.ErrState},
		{"alone, commit twice", []api.Op{commit(1), commit(1)}, api.ErrState},
		{"range, then state", with(read(0, 1), read(1, 1)), api.ErrRange},
		{"state, then range", with(read(1, 1), read(0, 1)), api.ErrState},
	} {
		edges, err := danger.Edges(k.l)
		if plain.Told(err) != k.err || len(edges) > 0 {
			t.Errorf("%s: edges: got %v %v, want %v", k.name, edges, err, k.err)
		}
		pivots, err := danger.Pivots(k.l)
		if plain.Told(err) != k.err || len(pivots) > 0 {
			t.Errorf("%s: pivots: got %v %v, want %v", k.name, pivots, err, k.err)
		}
		out, err := danger.Run(k.l)
		if plain.Told(err) != k.err || len(out.Done)+len(out.Seen)+len(out.Last) > 0 {
			t.Errorf("%s: got %v %v, want %v", k.name, out, err, k.err)
		}
	}
	goes(t, []asked{{text(t, with()), "1-2 2-1", "1 2", "1", "1a0", "b1"}})
}

// TestAlone: no ops; and none that is done, or one.
func TestAlone(t *testing.T) {
	for _, none := range [][]api.Op{nil, {}} {
		edges, err := danger.Edges(none)
		pivots, bad := danger.Pivots(none)
		out, ill := danger.Run(none)
		if err != nil || bad != nil || ill != nil || len(edges)+len(pivots)+len(out.Done)+len(out.Seen) > 0 {
			t.Errorf("no ops: got %v %v, %v %v, %v %v", edges, err, pivots, bad, out, ill)
		}
		if !slices.Equal(out.Last, make([]int, api.MaxItem)) {
			t.Errorf("no ops: got %v", out)
		}
	}
	goes(t, []asked{
		{"", "", "", "", "", ""},
		// None is done.
		{"r1(a) w2(a) r2(b) w1(b)", "", "", "", "", ""},
		{"r1(a) w2(a) r2(b) w1(b) a1 a2", "", "", "", "", ""},
		// One is, and leads nowhere: not to itself either.
		{"c1", "", "", "1", "", ""},
		{"r1(a) w1(a) r1(a) c1", "", "", "1", "1a0 1a1", "a1"},
		{"r6(f) w6(f) r6(a) w6(a) c6", "", "", "6", "6f0 6a0", "a6 f6"},
		// One is, and the other one aborts, or does not end, whichever read.
		{"r1(a) w2(a) r2(b) w1(b) c1", "", "", "1", "1a0", "b1"},
		{"r1(a) w2(a) r2(b) w1(b) a1 c2", "", "", "2", "2b0", "a2"},
		{"r1(a) w2(a) r2(b) w1(b) c2 a1", "", "", "2", "2b0", "a2"},
		// One is, and the other one is aborted by chapter 12.
		{"r1(a) w2(a) w2(c) w1(c) c1 c2", "", "", "1", "1a0", "c1"},
		{"r1(a) w2(a) w2(c) w1(c) c2 c1", "", "", "2", "", "a2 c2"},
	})
}

// TestEdges: D1: from whom to whom, of two.
func TestEdges(t *testing.T) {
	goes(t, []asked{
		// One read what the other one wrote: whichever did so first, and whichever commits first.
		{"r1(a) w2(a) c1 c2", "1-2", "", "1 2", "1a0", "a2"},
		{"r1(a) w2(a) c2 c1", "1-2", "", "2 1", "1a0", "a2"},
		{"w2(a) r1(a) c1 c2", "1-2", "", "1 2", "1a0", "a2"},
		{"w2(a) r1(a) c2 c1", "1-2", "", "2 1", "1a0", "a2"},
		// The other way by their numbers.
		{"r2(a) w1(a) c1 c2", "2-1", "", "1 2", "2a0", "a1"},
		{"w1(a) r2(a) c2 c1", "2-1", "", "2 1", "2a0", "a1"},
		{"r6(f) w1(f) c1 c6", "6-1", "", "1 6", "6f0", "f1"},
		{"r1(f) w6(f) c1 c6", "1-6", "", "1 6", "1f0", "f6"},
		// It reads only behind the other one's Commit, having begun ahead of it: by a Read, by a Write.
		{"r1(b) w2(a) c2 r1(a) c1", "1-2", "", "2 1", "1b0 1a0", "a2"},
		{"w1(b) w2(a) c2 r1(a) c1", "1-2", "", "2 1", "1a0", "a2 b1"},
		// It is written only behind the reader's Commit, by one that had begun ahead of it.
		{"r1(a) r2(b) c1 w2(a) c2", "1-2", "", "1 2", "1a0 2b0", "a2"},
		// Both read what the other one wrote: two items, more of them; whichever commits first is done.
		{"r1(a) r2(b) w1(b) w2(a) c1 c2", "1-2 2-1", "1 2", "1", "1a0", "b1"},
		{"r1(a) r2(b) w1(b) w2(a) c2 c1", "1-2 2-1", "1 2", "2", "2b0", "a2"},
		{"w5(b) w3(a) r5(a) r3(b) c3 c5", "3-5 5-3", "3 5", "3", "3b0", "a3"},
		{"r1(a) r1(b) r2(a) r2(b) w1(a) w2(b) c2 c1", "1-2 2-1", "1 2", "2", "2a0 2b0", "b2"},
		// What both only read, or both only wrote (so that one is aborted), or neither touched.
		{"r1(a) r2(a) c1 c2", "", "", "1 2", "1a0 2a0", ""},
		{"w1(a) w2(a) c1 c2", "", "", "1", "", "a1"},
		{"r1(a) w2(b) c1 c2", "", "", "1 2", "1a0", "b2"},
		{"r1(a) w1(b) r2(c) w2(d) c1 c2", "", "", "1 2", "1a0 2c0", "b1 d2"},
		// From itself alone, and both from itself and not: of that item, which the other one wrote too, one of them is not done.
		{"w1(a) r1(a) w2(b) c1 c2", "", "", "1 2", "1a1", "a1 b2"},
		{"w1(a) r1(a) w2(a) c1 c2", "", "", "1", "1a1", "a1"},
		{"w1(a) r1(a) w2(a) c2 c1", "", "", "2", "", "a2"},
		{"r1(a) w1(a) r1(a) w2(b) c1 c2", "", "", "1 2", "1a0 1a1", "a1 b2"},
		{"r1(a) w1(a) r1(a) w2(a) c2 c1", "", "", "2", "", "a2"},
		// One item from itself, another one not, which the other one wrote; the other one read what this one read from itself.
		{"w1(b) r1(b) r1(a) w2(a) c1 c2", "1-2", "", "1 2", "1b1 1a0", "a2 b1"},
		{"r1(a) w1(b) r1(b) w2(a) r2(a) c2 c1", "1-2", "", "2 1", "2a2 1a0 1b1", "a2 b1"},
		{"r2(a) w1(a) r1(a) c1 c2", "2-1", "", "1 2", "1a1 2a0", "a1"},
		{"r1(b) w1(b) r1(b) r2(b) c1 c2", "2-1", "", "1 2", "1b0 1b1 2b0", "b1"},
		// Each once, though there are several items, and several ops of each.
		{"r1(a) r1(b) r1(a) w2(a) w2(b) w2(a) c1 c2", "1-2", "", "1 2", "1a0 1b0 1a0", "a2 b2"},
		{"r1(f) r1(a) r1(e) w2(d) w2(e) c2 c1", "1-2", "", "2 1", "1f0 1a0 1e0", "d2 e2"},
		// From whom it read does not count, if it is not itself.
		{"w3(a) c3 r1(a) w2(a) c1 c2", "1-2", "", "3 1 2", "1a3", "a2"},
		{"w2(a) c2 r1(a) w3(a) c3 c1", "1-3", "", "2 3 1", "1a2", "a3"},
		{"w4(a) c4 r3(a) w3(b) r5(b) w5(a) c5 c3", "3-5 5-3", "3 5", "4 5", "5b0", "a5"},
	})
}

// TestApart: D1: of two that did not run at once no edge leads to the other one.
func TestApart(t *testing.T) {
	goes(t, []asked{
		{"r1(a) c1 w2(a) c2", "", "", "1 2", "1a0", "a2"},
		{"w2(a) c2 r1(a) c1", "", "", "2 1", "1a2", "a2"},
		{"r2(a) w2(b) c2 r1(b) w1(a) c1", "", "", "2 1", "2a0 1b2", "a1 b2"},
		// It began with the op that is just ahead of the Commit, and just behind it.
		{"w2(a) r1(b) c2 r1(a) c1", "1-2", "", "2 1", "1b0 1a0", "a2"},
		{"w2(a) c2 r1(b) r1(a) c1", "", "", "2 1", "1b0 1a2", "a2"},
		{"r1(a) w2(b) c1 w2(a) c2", "1-2", "", "1 2", "1a0", "a2 b2"},
		{"r1(a) c1 w2(b) w2(a) c2", "", "", "1 2", "1a0", "a2 b2"},
		// Another one ran at once with both.
		{"r3(f) r1(a) c1 w2(a) c2 c3", "", "", "1 2 3", "1a0 3f0", "a2"},
		{"r3(a) r1(a) c1 w2(a) c2 c3", "3-2", "", "1 2 3", "1a0 3a0", "a2"},
		// A chain, each at once with the next one alone.
		{"r1(a) r2(b) c1 w2(a) r3(c) c2 w3(b) w4(a) w4(c) c3 c4", "1-2 2-3 3-4", "2 3", "1 2 4", "1a0 2b0", "a4 c4"},
		// It begins with its Commit: nothing is read or written.
		{"r1(a) c2 w1(b) c1", "", "", "2 1", "1a0", "b1"},
	})
}

// TestLost: D1 and D2: who is aborted, or does not end, is in no edge, and between nobody.
func TestLost(t *testing.T) {
	goes(t, []asked{
		// One read an item that an aborted one wrote, or one wrote that does not end: nothing of it is seen.
		{"w3(a) r1(a) a3 c1", "", "", "1", "1a0", ""},
		{"w3(a) r1(a) c1", "", "", "1", "1a0", ""},
		{"w3(a) r1(a) w2(a) a3 c1 c2", "1-2", "", "1 2", "1a0", "a2"},
		{"w3(a) r1(a) w2(a) c2 c1", "1-2", "", "2 1", "1a0", "a2"},
		// An aborted one read what one wrote that is done.
		{"r3(a) w1(a) c1 a3", "", "", "1", "", "a1"},
		{"r3(a) w1(a) c1", "", "", "1", "", "a1"},
		// Between two: 2 aborts, does not end, is aborted by chapter 12.
		{"r1(a) r2(b) w2(a) w3(b) c1 a2 c3", "", "", "1 3", "1a0", "b3"},
		{"r1(a) r2(b) w2(a) w3(b) c1 c3", "", "", "1 3", "1a0", "b3"},
		{"r1(a) r2(b) w2(a) w3(b) w2(c) w4(c) c4 c2 c1 c3", "", "", "4 1 3", "1a0", "b3 c4"},
		// At an end of two edges: 1 aborts, does not end; 3 does.
		{"r1(a) r2(b) w2(a) w3(b) a1 c2 c3", "2-3", "", "2 3", "2b0", "a2 b3"},
		{"r1(a) r2(b) w2(a) w3(b) c3 c2", "2-3", "", "3 2", "2b0", "a2 b3"},
		{"r1(a) r2(b) w2(a) w3(b) c1 c2 a3", "1-2", "", "1 2", "1a0 2b0", "a2"},
		{"r1(a) r2(b) w2(a) w3(b) c2 c1", "1-2", "", "2 1", "2b0 1a0", "a2"},
		// 3 is aborted by chapter 12, as 4 wrote c.
		{"r1(a) r2(b) w2(a) w3(b) w3(c) w4(c) c4 c3 c1 c2", "1-2", "", "4 1 2", "1a0 2b0", "a2 c4"},
	})
}

// TestOrder: D1: edges by From, then To, whatever the order of ops and Commits.
func TestOrder(t *testing.T) {
	goes(t, []asked{
		{"r3(a) r3(b) r1(a) r1(b) w4(a) w2(b) c4 c3 c2 c1", "1-2 1-4 3-2 3-4", "", "4 3 2 1", "3a0 3b0 1a0 1b0", "a4 b2"},
		{"r6(c) r6(b) r6(a) w1(c) w3(a) w2(b) c6 c3 c1 c2", "6-1 6-2 6-3", "", "6 3 1 2", "6c0 6b0 6a0", "a3 b2 c1"},
		{"w2(d) r6(d) r4(d) r1(d) r5(d) r3(d) c5 c1 c6 c2 c4 c3", "1-2 3-2 4-2 5-2 6-2", "", "5 1 6 2 4 3", "5d0 1d0 6d0 4d0 3d0", "d2"},
		{"w6(f) r1(f) w5(e) r1(e) w4(d) r2(d) c1 c2 c4 c5 c6", "1-5 1-6 2-4", "", "1 2 4 5 6", "1f0 1e0 2d0", "d4 e5 f6"},
	})
}

// TestPivots: D1: those to which an edge leads, and from which one leads.
func TestPivots(t *testing.T) {
	goes(t, []asked{
		// No edge, an edge alone, two from one, two to one, two that do not meet.
		{"r1(a) r2(b) r3(c) c1 c2 c3", "", "", "1 2 3", "1a0 2b0 3c0", ""},
		{"r2(a) w1(a) r3(c) c1 c2 c3", "2-1", "", "1 2 3", "2a0 3c0", "a1"},
		{"r2(a) r2(b) w1(a) w3(b) c1 c2 c3", "2-1 2-3", "", "1 2 3", "2a0 2b0", "a1 b3"},
		{"r1(a) r3(b) w2(a) w2(b) c1 c2 c3", "1-2 3-2", "", "1 2 3", "1a0 3b0", "a2 b2"},
		{"r1(a) w2(a) r3(b) w4(b) c1 c2 c3 c4", "1-2 3-4", "", "1 2 3 4", "1a0 3b0", "a2 b4"},
		// Two edges in a row: the least, the one between, the greatest number stands between.
		{"r1(a) r2(b) w2(a) w3(b) c1 c2 c3", "1-2 2-3", "2", "1 2", "1a0 2b0", "a2"},
		{"r3(a) r1(b) w1(a) w2(b) c1 c2 c3", "1-2 3-1", "1", "1 2", "1b0", "a1 b2"},
		{"r2(a) r6(b) w6(a) w1(b) c6 c1 c2", "2-6 6-1", "6", "6 1", "6b0", "a6 b1"},
		// The one ends before the third begins: the one between is still.
		{"r1(a) r2(b) c1 w2(a) w3(b) c3 c2", "1-2 2-3", "2", "1 3", "1a0", "b3"},
		{"w3(b) r2(b) c3 w2(a) r1(a) c2 c1", "1-2 2-3", "2", "3 2", "2b0", "a2 b3"},
		// The same item read from there and written from here does not make two edges of one.
		{"r1(a) w2(a) r2(a) w3(b) c1 c2 c3", "1-2", "", "1 2 3", "1a0 2a2", "a2 b3"},
		// Two that lead to each other; a ring of three; two rings, rising, whoever commits first.
		{"r1(a) r2(b) w1(b) w2(a) c1 c2", "1-2 2-1", "1 2", "1", "1a0", "b1"},
		{"r1(a) r2(b) r3(c) w3(a) w1(b) w2(c) c1 c2 c3", "1-3 2-1 3-2", "1 2 3", "1 2", "1a0 2b0", "b1 c2"},
		{"r6(a) w4(a) r4(b) w6(b) r3(c) w1(c) r1(d) w3(d) c6 c3 c4 c1", "1-3 3-1 4-6 6-4", "1 3 4 6", "6 3", "6a0 3c0", "b6 d3"},
		// A row of four: the two between. One between four.
		{"r4(a) r3(b) r2(c) w3(a) w2(b) w1(c) c1 c2 c3 c4", "2-1 3-2 4-3", "2 3", "1 2 4", "2c0 4a0", "b2 c1"},
		{"r1(a) r2(a) r3(b) r3(c) w3(a) w4(b) w5(c) c1 c2 c4 c5 c3", "1-3 2-3 3-4 3-5", "3", "1 2 4 5", "1a0 2a0", "b4 c5"},
	})
}

// TestCommits: D2: at its Commit a deal is aborted if with it one would be a Pivot.
func TestCommits(t *testing.T) {
	goes(t, []asked{
		// 1 to 2 to 3. The deal itself would be.
		{"r1(a) r2(b) w2(a) w3(b) c1 c3 c2", "1-2 2-3", "2", "1 3", "1a0", "b3"},
		{"r1(a) r2(b) w2(a) w3(b) c3 c1 c2", "1-2 2-3", "2", "3 1", "1a0", "b3"},
		// One that is done would be, and an edge leads from it to the deal.
		{"r1(a) r2(b) w2(a) w3(b) c1 c2 c3", "1-2 2-3", "2", "1 2", "1a0 2b0", "a2"},
		{"r1(a) r2(b) w2(a) w3(b) c2 c1 c3", "1-2 2-3", "2", "2 1", "2b0 1a0", "a2"},
		// One that is done would be, and an edge leads to it from the deal, though that only read.
		{"r1(a) r2(b) w2(a) w3(b) c3 c2 c1", "1-2 2-3", "2", "3 2", "2b0", "a2 b3"},
		{"r1(a) r2(b) w2(a) w3(b) c2 c3 c1", "1-2 2-3", "2", "2 3", "2b0", "a2 b3"},
		// Two would be, by edges both ways.
		{"r1(a) r2(b) w1(b) w2(a) c1 c2", "1-2 2-1", "1 2", "1", "1a0", "b1"},
		// Neither would, though an edge leads from, or to, one that is done and has another such edge.
		{"r1(a) w2(a) r1(b) w3(b) c2 c1 c3", "1-2 1-3", "", "2 1 3", "1a0 1b0", "a2 b3"},
		{"r1(a) w2(a) w2(b) r3(b) c2 c1 c3", "1-2 3-2", "", "2 1 3", "1a0 3b0", "a2 b2"},
		// Neither would, as the one between had committed when the third began.
		{"r1(a) r2(b) w2(a) c2 w3(b) c1 c3", "1-2", "", "2 1 3", "2b0 1a0", "a2 b3"},
		{"w3(b) c3 r2(b) w2(a) r1(a) c1 c2", "1-2", "", "3 1 2", "1a0 2b3", "a2 b3"},
		// By chapter 12's rule alone; by both, where the ring is told of nobody.
		{"w1(a) w2(a) c1 c2", "", "", "1", "", "a1"},
		{"r1(b) w1(a) w2(a) w3(b) c1 c2 c3", "1-3", "", "1 3", "1b0", "a1 b3"},
		{"r1(a) r2(b) w1(b) w2(a) w1(c) w2(c) c1 c2", "", "", "1", "1a0", "b1 c1"},
		// Others that touch nothing commit between.
		{"r1(a) r2(b) c5 w1(b) c6 w2(a) c1 c4 c2 c3", "1-2 2-1", "1 2", "5 6 1 4 3", "1a0", "b1"},
	})
}

// TestLater: D2: who was aborted counts for nobody who commits later.
func TestLater(t *testing.T) {
	goes(t, []asked{
		// 3 is aborted, so that 4 may be done, to which it leads; and 5, which it would have made fall by chapter 12.
		{"r1(a) r2(b) r3(c) w2(a) w3(b) w4(c) c1 c2 c3 c4", "1-2 2-3 3-4", "2 3", "1 2 4", "1a0 2b0", "a2 c4"},
		{"r1(a) r2(b) w2(a) w2(f) w3(b) w5(f) c1 c3 c2 c5", "1-2 2-3", "2", "1 3 5", "1a0", "b3 f5"},
		{"r1(a) r2(b) w2(a) w2(f) w3(b) r5(f) c1 c3 c2 c5", "1-2 2-3 5-2", "2", "1 3 5", "1a0 5f0", "b3"},
		// What it wrote is seen by nobody: one begins behind it.
		{"w4(f) c4 r1(a) r2(b) w2(a) w2(f) w1(b) c1 c2 r5(f) r5(a) r5(b) c5", "1-2 2-1", "1 2", "4 1 5", "1a0 5f4 5a0 5b1", "b1 f4"},
		// Who is done in its place makes others fall, by chapter 12's rule, and by this one.
		{"r1(a) r2(b) w2(a) w2(f) w1(b) w5(f) w5(e) w6(e) c1 c2 c5 c6", "1-2 2-1", "1 2", "1 5", "1a0", "b1 e5 f5"},
		{"r1(a) r2(b) w2(a) w2(f) w1(b) w5(f) r5(e) r6(f) w6(e) c1 c2 c5 c6", "1-2 2-1 6-2", "1 2", "1 5", "1a0 5e0", "b1 f5"},
		// One after the other is aborted by the first two.
		{"r1(a) w2(a) r2(b) w3(b) w4(c) r2(c) w5(d) r2(d) c1 c2 c3 c4 c5", "1-2 2-3 2-4 2-5", "2", "1 2", "1a0 2b0 2c0 2d0", "a2"},
		{"r1(a) w2(a) r2(b) w3(b) w4(c) r2(c) w5(d) r2(d) c1 c3 c4 c5 c2", "1-2 2-3 2-4 2-5", "2", "1 3 4 5", "1a0", "b3 c4 d5"},
	})
}

// TestTold: D2: Done as they committed, Seen of each of these in its own order, Last of all items.
func TestTold(t *testing.T) {
	goes(t, []asked{
		{"c6 c5 c4 c3 c2 c1", "", "", "6 5 4 3 2 1", "", ""},
		// Reads by turns, each deal's are together, the last item first.
		{"r1(c) r2(b) r1(b) r2(c) r1(a) r2(a) c2 c1", "", "", "2 1", "2b0 2c0 2a0 1c0 1b0 1a0", ""},
		// From itself, another one, and nobody; again, with another one's Commit between.
		{"w1(b) c1 w2(c) r2(c) r2(b) r2(a) r2(c) c2", "", "", "1 2", "2c2 2b1 2a0 2c2", "b1 c2"},
		{"w3(a) c3 r2(a) w1(a) c1 r2(a) w4(a) c4 r2(a) c2", "2-1 2-4", "", "3 1 4 2", "2a3 2a3 2a3", "a4"},
		// All six items, by several, and who committed last with it.
		{"w6(a) w6(f) c6 w2(b) w2(f) c2 w4(c) c4", "", "", "6 2 4", "", "a6 b2 c4 f2"},
		{"w3(a) w3(b) w3(c) w3(d) w3(e) w3(f) c3", "", "", "3", "", "a3 b3 c3 d3 e3 f3"},
	})
}

// most is MaxOps ops of all deals at once: each writes the item of its number, and reads those of
// others, as many as there is room for; they commit in this order.
func most(order []int) (l []api.Op, edges []api.Edge) {
	for tx := 1; tx <= api.MaxTx; tx++ {
		l = append(l, write(tx, tx))
	}
	for from := 1; from <= api.MaxTx; from++ {
		for to := 1; to <= api.MaxTx; to++ {
			if from != to && len(l) < api.MaxOps-api.MaxTx {
				l = append(l, read(from, to))
				edges = append(edges, api.Edge{From: from, To: to})
			}
		}
	}
	for _, tx := range order {
		l = append(l, commit(tx))
	}
	return l, edges
}

// TestMost: D1 and D2 at MaxOps ops.
func TestMost(t *testing.T) {
	for _, k := range []struct {
		order []int
		done  string
	}{
		{[]int{1, 2, 3, 4, 5, 6}, "1"},
		{[]int{6, 5, 4, 3, 2, 1}, "6 5"}, // 6 has no room left to read what 4 and 5 wrote
		{[]int{4, 1, 6, 2, 3, 5}, "4 6"},
	} {
		l, want := most(k.order)
		edges, err := danger.Edges(l)
		if err != nil || len(l) != api.MaxOps || !slices.Equal(edges, want) {
			t.Errorf("%q: edges: got %v %v, want %v", text(t, l), edges, err, want)
		}
		pivots, err := danger.Pivots(l)
		if err != nil || dealWords(pivots) != "1 2 3 4 5 6" {
			t.Errorf("%q: pivots: got %v %v", text(t, l), pivots, err)
		}
		out, err := danger.Run(l)
		if err != nil || dealWords(out.Done) != k.done {
			t.Errorf("%q: got %v %v, want %s", text(t, l), out, err, k.done)
		}
		byWords(t, l)
	}
	byWords(t, append(slices.Repeat([]api.Op{write(1, 1)}, api.MaxOps-1), commit(1)))
	byWords(t, slices.Repeat([]api.Op{read(6, 6)}, api.MaxOps))
	// 2 is aborted at the last op there may be.
	byWords(t, slices.Concat([]api.Op{read(1, 1), write(2, 1), write(1, 2), commit(1)}, slices.Repeat([]api.Op{read(2, 2)}, api.MaxOps-5), []api.Op{commit(2)}))
}

// TestMemory: P2 and P4 of DOC.md.
func TestMemory(t *testing.T) {
	whole := append(ops(t, "w6(f) c6 r1(a) r2(b) w2(a) w3(b) r4(f) r1(f) c1 c3 c2 c4 r5(b)"), read(0, 0), commit(1), api.Op{Tx: 9, What: 9, Item: 9})
	kept := slices.Clone(whole)
	n := len(whole) - 3
	edges, err := danger.Edges(whole[:n])
	pivots, bad := danger.Pivots(whole[:n])
	first, ill := danger.Run(whole[:n])
	if err != nil || bad != nil || ill != nil || len(edges) < 2 || len(pivots) < 1 || len(first.Done) < 3 || len(first.Seen) < 2 {
		t.Fatalf("got %v %v, %v %v, %v %v", edges, err, pivots, bad, first, ill)
	}
	ways, between, was := slices.Clone(edges), slices.Clone(pivots), clone(first)
	clear(first.Done[:cap(first.Done)])
	if !slices.Equal(first.Seen, was.Seen) || !slices.Equal(first.Last, was.Last) {
		t.Errorf("what was told behind Done is now %v", first)
	}
	clear(first.Seen[:cap(first.Seen)])
	clear(first.Last[:cap(first.Last)])
	clear(edges[:cap(edges)])
	clear(pivots[:cap(pivots)])
	if !slices.Equal(whole, kept) {
		t.Fatalf("what was handed in is now %v", whole)
	}
	edges, err = danger.Edges(whole[:n])
	pivots, bad = danger.Pivots(whole[:n])
	second, ill := danger.Run(whole[:n])
	if err != nil || bad != nil || ill != nil {
		t.Fatalf("again: got %v, %v, %v", err, bad, ill)
	}
	clear(whole)
	if !slices.Equal(edges, ways) || !slices.Equal(pivots, between) || !equal(second, was) {
		t.Errorf("again: got %v, %v, %v, want %v, %v, %v", edges, pivots, second, ways, between, was)
	}
}

// causes: how often each thing came to be: a deal is done; it falls by chapter 12's
// rule; it falls as it would be a Pivot itself, or just one that is done would be;
// it is done by Run, but not by chapter 12's; an edge leads up, or down, by numbers;
// it would lead, but that the two did not run at once; there is a Pivot; by chapter
// 12's Run it is not as if deals had come one behind the other.
type causes struct{ done, over, self, other, later, up, down, apart, pivots, rings int }

func (c *causes) add(d causes) {
	c.done += d.done
	c.over += d.over
	c.self += d.self
	c.other += d.other
	c.later += d.later
	c.up += d.up
	c.down += d.down
	c.apart += d.apart
	c.pivots += d.pivots
	c.rings += d.rings
}

// notes are right ops, and at which places a deal was done.
type notes struct {
	l    []api.Op
	done []int
}

// begin of a deal: the place of its first op.
func (n notes) begin(tx int) int {
	return slices.IndexFunc(n.l, func(o api.Op) bool { return o.Tx == tx })
}

// wroteAhead tells whether a deal wrote an item ahead of a place.
func (n notes) wroteAhead(tx, item, at int) bool {
	return slices.Contains(n.l[:at], write(tx, item))
}

// from whom the Read at a place reads.
func (n notes) from(at int) int {
	o := n.l[at]
	if n.wroteAhead(o.Tx, o.Item, at) {
		return o.Tx
	}
	last := 0
	for _, end := range n.done {
		if end < n.begin(o.Tx) && n.wroteAhead(n.l[end].Tx, o.Item, end) {
			last = n.l[end].Tx
		}
	}
	return last
}

// isOver: whether by chapter 12 a deal is aborted at this place, which is its Commit.
func (n notes) isOver(at int) bool {
	tx := n.l[at].Tx
	for _, o := range n.l[:at] {
		if o.Tx != tx || o.What != api.Write {
			continue
		}
		for _, end := range n.done {
			if end > n.begin(tx) && n.wroteAhead(n.l[end].Tx, o.Item, end) {
				return true
			}
		}
	}
	return false
}

// edges of those that are done: of each Read from another one or nobody, to each that wrote the item and ran at once.
func (n notes) edges(c *causes) []api.Edge {
	var all []api.Edge
	for _, end := range n.done {
		for at, o := range n.l[:end] {
			if o.Tx != n.l[end].Tx || o.What != api.Read || n.from(at) == o.Tx {
				continue
			}
			for _, other := range n.done {
				to := n.l[other].Tx
				switch {
				case to == o.Tx || !n.wroteAhead(to, o.Item, other):
				case other < n.begin(o.Tx) || end < n.begin(to):
					c.apart++
				default:
					all = append(all, api.Edge{From: o.Tx, To: to})
				}
			}
		}
	}
	return sorted(all)
}

// sorted edges, each once, by From, then To.
func sorted(all []api.Edge) []api.Edge {
	slices.SortFunc(all, func(d, e api.Edge) int {
		return cmp.Or(cmp.Compare(d.From, e.From), cmp.Compare(d.To, e.To))
	})
	return slices.Compact(all)
}

// between: those to which an edge leads and from which one leads.
func between(edges []api.Edge) []int {
	var all []int
	for _, d := range edges {
		for _, e := range edges {
			if d.To == e.From {
				all = append(all, d.To)
			}
		}
	}
	slices.Sort(all)
	return slices.Compact(all)
}

// outcome of those that are done.
func (n notes) outcome() (out api.Outcome) {
	out.Last = make([]int, api.MaxItem)
	for _, end := range n.done {
		out.Done = append(out.Done, n.l[end].Tx)
		for at, o := range n.l[:end] {
			switch {
			case o.Tx != n.l[end].Tx:
			case o.What == api.Read:
				out.Seen = append(out.Seen, api.Seen{Tx: o.Tx, Item: o.Item, From: n.from(at)})
			default:
				out.Last[o.Item-1] = o.Tx
			}
		}
	}
	return out
}

// run of right ops, as the promises' words have it, all being read off what was asked and where deals were done:
// by chapter 12's rule alone, or with nobody between.
func run(l []api.Op, alone bool, c *causes) notes {
	n := notes{l: l}
	for at, o := range l {
		if o.What != api.Commit {
			continue
		}
		if n.isOver(at) {
			c.over++
			continue
		}
		with := notes{l, append(slices.Clone(n.done), at)}
		mids := between(with.edges(&causes{}))
		switch {
		case alone || len(mids) == 0:
			n = with
		case slices.Contains(mids, o.Tx):
			c.self++
		default:
			c.other++
		}
	}
	return n
}

// byWords holds what comes of right ops against the promises' words, and against what is to be true of the whole.
func byWords(t *testing.T, l []api.Op) causes {
	t.Helper()
	var c causes
	old, now := run(l, true, &causes{}), run(l, false, &c)
	edges, err := danger.Edges(l)
	want := old.edges(&c)
	if err != nil || !slices.Equal(edges, want) {
		t.Fatalf("%q: edges: got %v %v, want %v", text(t, l), edges, err, want)
	}
	pivots, err := danger.Pivots(l)
	if mids := between(want); err != nil || !slices.Equal(pivots, mids) {
		t.Fatalf("%q: pivots: got %v %v, want %v", text(t, l), pivots, err, mids)
	}
	out, err := danger.Run(l)
	if should := now.outcome(); err != nil || !equal(out, should) {
		t.Fatalf("%q: got %v %v, want %v", text(t, l), out, err, should)
	}
	whole, err := snap.Run(l)
	if err != nil || !equal(whole, old.outcome()) {
		t.Fatalf("%q: chapter 12: got %v %v, want %v", text(t, l), whole, err, old.outcome())
	}
	ranAtOnce(t, l, edges)
	asBefore(t, l, out, whole, pivots)
	justThose(t, l, out)
	if !isSerial(t, l, out) {
		t.Fatalf("%q: got %v, which is as no order", text(t, l), out)
	}
	if !isSerial(t, l, whole) {
		c.rings++
	}
	c.count(edges, pivots, out, whole)
	return c
}

// count what came of ops.
func (c *causes) count(edges []api.Edge, pivots []int, out, whole api.Outcome) {
	c.done, c.pivots = len(out.Done), len(pivots)
	for _, e := range edges {
		if e.From < e.To {
			c.up++
		} else {
			c.down++
		}
	}
	for _, tx := range out.Done {
		if !slices.Contains(whole.Done, tx) {
			c.later++
		}
	}
}

// ranAtOnce: each edge is one of chapter 12's pairs, one way or the other.
func ranAtOnce(t *testing.T, l []api.Op, edges []api.Edge) {
	t.Helper()
	pairs, err := snap.Together(l)
	for _, e := range edges {
		if err != nil || !slices.Contains(pairs, api.Edge{From: min(e.From, e.To), To: max(e.From, e.To)}) {
			t.Fatalf("%q: edges: got %v, but together ran %v %v", text(t, l), e, pairs, err)
		}
	}
}

// asBefore: it is as chapter 12 has it just if nobody is between.
func asBefore(t *testing.T, l []api.Op, out, whole api.Outcome, pivots []int) {
	t.Helper()
	if equal(out, whole) != (len(pivots) == 0) {
		t.Fatalf("%q: got %v, by chapter 12 %v, with pivots %v", text(t, l), out, whole, pivots)
	}
}

// justThose: if just those that are done ask, the same comes of it, by chapter 12 too, and nobody is between.
func justThose(t *testing.T, l []api.Op, out api.Outcome) {
	t.Helper()
	just := slices.DeleteFunc(slices.Clone(l), func(o api.Op) bool { return !slices.Contains(out.Done, o.Tx) })
	again, err := danger.Run(just)
	whole, ill := snap.Run(just)
	pivots, bad := danger.Pivots(just)
	if err != nil || ill != nil || bad != nil || len(pivots) > 0 || !equal(again, out) || !equal(whole, out) {
		t.Fatalf("%q: got %v, but of %q %v %v, %v %v, %v %v", text(t, l), out, text(t, just), again, err, whole, ill, pivots, bad)
	}
}

// isSerial: whether there is an order by which those that are done see and leave the same, one behind the other.
func isSerial(t *testing.T, l []api.Op, out api.Outcome) bool {
	t.Helper()
	order, err := graph.Order(sorted(musts(l, out)))
	if err != nil {
		return false
	}
	for _, tx := range out.Done {
		if !slices.Contains(order, tx) { // nothing binds it
			order = append(order, tx)
		}
	}
	just := slices.DeleteFunc(slices.Clone(l), func(o api.Op) bool { return !slices.Contains(out.Done, o.Tx) })
	laid, err := serial.Serial(just, order)
	if err != nil {
		t.Fatalf("%q by %v: %v", text(t, just), order, err)
	}
	behind, err := snap.Run(laid)
	if err != nil {
		t.Fatalf("%q: %v", text(t, laid), err)
	}
	return slices.Equal(behind.Last, out.Last) && slices.Equal(byDeal(behind.Seen), byDeal(out.Seen))
}

// byDeal is what was seen, with the deals by their numbers, each in its own order.
func byDeal(seen []api.Seen) []api.Seen {
	l := slices.Clone(seen)
	slices.SortStableFunc(l, func(a, b api.Seen) int { return cmp.Compare(a.Tx, b.Tx) })
	return l
}

// musts: who stands ahead of whom, if they are to see and leave the same: who wrote an item ahead of those that
// wrote it later, and of those that saw it; and who saw it ahead of those that wrote it later than what it saw.
func musts(l []api.Op, out api.Outcome) (all []api.Edge) {
	must := func(a, b int) {
		if a != b && a != 0 {
			all = append(all, api.Edge{From: a, To: b})
		}
	}
	for item := 1; item <= api.MaxItem; item++ {
		wrote := []int{0}
		for _, tx := range out.Done {
			if slices.Contains(l, write(tx, item)) {
				wrote = append(wrote, tx)
			}
		}
		for at, tx := range wrote {
			for _, later := range wrote[at+1:] {
				must(tx, later)
			}
			for _, s := range out.Seen {
				if s.Item != item || s.From != tx || s.From == s.Tx {
					continue
				}
				must(tx, s.Tx)
				for _, later := range wrote[at+1:] {
					must(s.Tx, later)
				}
			}
		}
	}
	return all
}

// over tells whether a deal ends.
func over(l []api.Op, tx int) bool {
	return slices.Contains(l, commit(tx)) || slices.Contains(l, abort(tx))
}

// grow goes over all ops of at most n, each of which is one of these, and whose deals are done with an end.
func grow(n int, some []api.Op, see func(l []api.Op)) {
	var l []api.Op
	var more func()
	more = func() {
		see(l)
		if len(l) == n {
			return
		}
		for _, o := range some {
			if !over(l, o.Tx) {
				l = append(l, o)
				more()
				l = l[:len(l)-1]
			}
		}
	}
	more()
}

// TestSmall: D1 and D2: all ops of few deals on few items, as they are, and where all commit at last, by both orders.
func TestSmall(t *testing.T) {
	for _, k := range []struct{ deals, items, n int }{{2, 1, 4}, {2, 2, 4}, {3, 1, 4}, {3, 2, 3}} {
		var some []api.Op
		for tx := 1; tx <= k.deals; tx++ {
			for item := 1; item <= k.items; item++ {
				some = append(some, read(tx, item), write(tx, item))
			}
			some = append(some, commit(tx), abort(tx))
		}
		grow(k.n, some, func(l []api.Op) {
			up, down := slices.Clone(l), slices.Clone(l)
			for tx := 1; tx <= k.deals; tx++ {
				if !over(l, tx) {
					up = append(up, commit(tx))
					down = slices.Insert(down, len(l), commit(tx))
				}
			}
			byWords(t, l)
			byWords(t, up)
			byWords(t, down)
		})
	}
}

// roller gives numbers below n, by a rule that mixes them.
func roller() func(n int) int {
	mixed := uint64(1)
	return func(n int) int {
		mixed = mixed*6364136223846793005 + 1442695040888963407
		return int(mixed>>33) % n
	}
}

// mixed ops of three to six deals on two to six items: each deal asks for some, fewer Writes than Reads, and then
// mostly to end, by turns.
func mixed(roll func(int) int) []api.Op {
	deals, items := roll(api.MaxTx-2)+3, roll(api.MaxItem-1)+2
	var left [][]api.Op
	for tx := 1; tx <= deals; tx++ {
		var some []api.Op
		for range roll(api.MaxOps / deals) {
			some = append(some, api.Op{Tx: tx, What: api.Read + roll(4)/3, Item: roll(items) + 1})
		}
		if end := roll(9); end > 0 {
			some = append(some, api.Op{Tx: tx, What: api.Commit + end/8})
		}
		left = append(left, some)
	}
	var l []api.Op
	for len(left) > 0 {
		at := roll(len(left))
		if len(left[at]) == 0 {
			left = slices.Delete(left, at, at+1)
			continue
		}
		l = append(l, left[at][0])
		left[at] = left[at][1:]
	}
	return l
}

// TestGreat: D1 and D2: many ops, mixed.
func TestGreat(t *testing.T) {
	roll := roller()
	var sum causes
	for range 20_000 {
		sum.add(byWords(t, mixed(roll)))
	}
	if min(sum.done, sum.over, sum.self, sum.other, sum.later, sum.up, sum.down, sum.apart, sum.pivots, sum.rings) < 100 {
		t.Errorf("%+v: too few to tell", sum)
	}
}
