package snap_test

import (
	"cmp"
	"math"
	"slices"
	"strconv"
	"strings"
	"testing"

	"locklane/api"
	"locklane/history"
	"locklane/plain"
	"locklane/serial"
	"locklane/snap"
	"locklane/valid"
)

func read(tx, item int) api.Op  { return api.Op{Tx: tx, What: api.Read, Item: item} }
func write(tx, item int) api.Op { return api.Op{Tx: tx, What: api.Write, Item: item} }
func commit(tx int) api.Op      { return api.Op{Tx: tx, What: api.Commit} }
func abort(tx int) api.Op       { return api.Op{Tx: tx, What: api.Abort} }

// ops of a text that is right.
func ops(t *testing.T, text string) []api.Op {
	t.Helper()
	l, err := history.Parse(text)
	if err != nil {
		t.Fatalf("%q: %v", text, err)
	}
	return l
}

// text of ops that are right.
func text(t *testing.T, l []api.Op) string {
	t.Helper()
	s, err := history.Print(l)
	if err != nil {
		t.Fatalf("%v: %v", l, err)
	}
	return s
}

// letter of an item.
func letter(item int) string { return string(rune('a' + item - 1)) }

// words of an outcome: `1 2`, `1a0 2b2` (1 read a from nobody, 2 read b from itself), `a2 b1` (2 wrote a last, 1 wrote b last).
func words(out api.Outcome) (done, seen, last string) {
	var d, s, l []string
	for _, tx := range out.Done {
		d = append(d, strconv.Itoa(tx))
	}
	for _, r := range out.Seen {
		s = append(s, strconv.Itoa(r.Tx)+letter(r.Item)+strconv.Itoa(r.From))
	}
	for at, tx := range out.Last {
		if tx != 0 {
			l = append(l, letter(at+1)+strconv.Itoa(tx))
		}
	}
	return strings.Join(d, " "), strings.Join(s, " "), strings.Join(l, " ")
}

// pairWords of those that ran at once: `1-2 1-3`.
func pairWords(pairs []api.Edge) string {
	var all []string
	for _, e := range pairs {
		all = append(all, strconv.Itoa(e.From)+"-"+strconv.Itoa(e.To))
	}
	return strings.Join(all, " ")
}

// equal tells whether outcomes are, an empty list and nil being the same.
func equal(a, b api.Outcome) bool {
	return slices.Equal(a.Done, b.Done) && slices.Equal(a.Seen, b.Seen) && slices.Equal(a.Last, b.Last)
}

func clone(out api.Outcome) api.Outcome {
	return api.Outcome{Done: slices.Clone(out.Done), Seen: slices.Clone(out.Seen), Last: slices.Clone(out.Last)}
}

// asked is what deals ask for, and what comes of it, as words and pairWords have it.
type asked struct{ ops, done, seen, last, pairs string }

// goes holds what comes of ops against what should, and against the promise's words.
func goes(t *testing.T, all []asked) {
	t.Helper()
	for _, k := range all {
		l := ops(t, k.ops)
		out, err := snap.Run(l)
		done, seen, last := words(out)
		if err != nil || done != k.done || seen != k.seen || last != k.last {
			t.Errorf("%q: got %q %q %q %v, want %q %q %q", k.ops, done, seen, last, err, k.done, k.seen, k.last)
		}
		pairs, err := snap.Together(l)
		if err != nil || pairWords(pairs) != k.pairs {
			t.Errorf("%q: together: got %q %v, want %q", k.ops, pairWords(pairs), err, k.pairs)
		}
		byWords(t, l)
	}
}

// rich is n ops by which some are done, two of them at once, and 2 is aborted at its Commit.
func rich(n int) []api.Op {
	l := []api.Op{write(2, 1), write(1, 1), read(4, 1), read(1, 1), commit(1), commit(2), commit(4), read(3, 1)}
	for len(l) < n {
		l = append(l, write(3, 2))
	}
	return l[:n]
}

// with is rich, and these ops behind it.
func with(more ...api.Op) []api.Op { return append(rich(8), more...) }

// but is rich, of n ops, of which one is another op.
func but(n, at int, o api.Op) []api.Op {
	l := rich(n)
	l[at] = o
	return l
}

// TestWrong: S1: Check's error is told, of Run and of Together, and nothing with it.
func TestWrong(t *testing.T) {
	for _, k := range []struct {
		name string
		l    []api.Op
		err  api.Errno
	}{
		{"one more than MaxOps", rich(api.MaxOps + 1), api.ErrFull},
		{"far more", rich(1000), api.ErrFull},
		{"too many, and one of no deal", but(api.MaxOps+1, 0, read(0, 1)), api.ErrFull},
		{"too many, and one behind its commit", but(api.MaxOps+1, api.MaxOps, read(1, 1)), api.ErrFull},
		{"first of MaxOps", but(api.MaxOps, 0, read(7, 1)), api.ErrRange},
		{"last of MaxOps", but(api.MaxOps, api.MaxOps-1, read(1, 0)), api.ErrRange},
		{"alone, of no deal", []api.Op{commit(0)}, api.ErrRange},
		{"deal 0", with(read(0, 1)), api.ErrRange},
		{"deal below 0", with(write(-1, 1)), api.ErrRange},
		{"deal beyond", with(commit(api.MaxTx + 1)), api.ErrRange},
		{"abort of a deal beyond", with(abort(api.MaxTx + 1)), api.ErrRange},
		{"greatest deal", with(read(math.MaxInt, 1)), api.ErrRange},
		{"least deal", with(commit(math.MinInt)), api.ErrRange},
		{"what 0", with(api.Op{Tx: 3, Item: 1}), api.ErrRange},
		{"what below 0", with(api.Op{Tx: 3, What: -1, Item: 1}), api.ErrRange},
		{"what beyond", with(api.Op{Tx: 3, What: api.Abort + 1}), api.ErrRange},
		{"item 0 read", with(read(3, 0)), api.ErrRange},
		{"item 0 written", with(write(3, 0)), api.ErrRange},
		{"item below 0", with(write(3, -1)), api.ErrRange},
		{"item beyond", with(read(3, api.MaxItem+1)), api.ErrRange},
		{"greatest item", with(write(3, math.MaxInt)), api.ErrRange},
		{"least item", with(read(3, math.MinInt)), api.ErrRange},
		{"commit of an item", with(api.Op{Tx: 3, What: api.Commit, Item: 1}), api.ErrRange},
		{"abort of an item", with(api.Op{Tx: 3, What: api.Abort, Item: 1}), api.ErrRange},
		{"behind its commit", with(read(1, 1)), api.ErrState},
		{"behind its abort", with(abort(3), write(3, 1)), api.ErrState},
		{"commit twice", with(commit(1)), api.ErrState},
		{"abort twice", with(abort(3), abort(3)), api.ErrState},
		{"abort, then commit", with(abort(3), commit(3)), api.ErrState},
		{"of one that is aborted at its commit, a read", with(read(2, 1)), api.ErrState},
		{"of one that is aborted at its commit, a commit again", with(commit(2)), api.ErrState},
		{"of one that is aborted at its commit, an abort", with(abort(2)), api.ErrState},
		{"alone, commit twice", []api.Op{commit(1), commit(1)}, api.ErrState},
		{"range, then state", with(read(0, 1), read(1, 1)), api.ErrRange},
		{"state, then range", with(read(1, 1), read(0, 1)), api.ErrState},
	} {
		out, err := snap.Run(k.l)
		if plain.Told(err) != k.err || len(out.Done)+len(out.Seen)+len(out.Last) > 0 {
			t.Errorf("%s: got %v %v, want %v", k.name, out, err, k.err)
		}
		pairs, err := snap.Together(k.l)
		if plain.Told(err) != k.err || len(pairs) > 0 {
			t.Errorf("%s: together: got %v %v, want %v", k.name, pairs, err, k.err)
		}
	}
	goes(t, []asked{{text(t, with()), "1 4", "1a1 4a0", "a1", "1-4"}})
}

// TestAlone: S1: no ops, and one deal alone.
func TestAlone(t *testing.T) {
	for _, none := range [][]api.Op{nil, {}} {
		out, err := snap.Run(none)
		if err != nil || len(out.Done)+len(out.Seen) > 0 || !slices.Equal(out.Last, make([]int, api.MaxItem)) {
			t.Errorf("no ops: got %v %v", out, err)
		}
		if pairs, err := snap.Together(none); err != nil || len(pairs) > 0 {
			t.Errorf("no ops: together: got %v %v", pairs, err)
		}
	}
	goes(t, []asked{
		{"", "", "", "", ""},
		// It begins with its Commit, or its Abort.
		{"c1", "1", "", "", ""},
		{"c6", "6", "", "", ""},
		{"a1", "", "", "", ""},
		// It reads, writes, and does both; the least and the greatest there are.
		{"r1(a) c1", "1", "1a0", "", ""},
		{"r6(f) c6", "6", "6f0", "", ""},
		{"w1(a) c1", "1", "", "a1", ""},
		{"w6(f) c6", "6", "", "f6", ""},
		{"r1(a) w1(b) c1", "1", "1a0", "b1", ""},
		{"w3(a) w3(b) w3(c) w3(d) w3(e) w3(f) c3", "3", "", "a3 b3 c3 d3 e3 f3", ""},
		{"r3(f) r3(e) r3(d) r3(c) r3(b) r3(a) c3", "3", "3f0 3e0 3d0 3c0 3b0 3a0", "", ""},
		// It reads what it wrote itself; first what was committed; again; of another item.
		{"w1(a) r1(a) c1", "1", "1a1", "a1", ""},
		{"r1(a) w1(a) r1(a) c1", "1", "1a0 1a1", "a1", ""},
		{"r1(a) r1(a) w1(a) w1(a) r1(a) r1(a) c1", "1", "1a0 1a0 1a1 1a1", "a1", ""},
		{"w1(a) r1(b) w1(b) r1(a) r1(b) c1", "1", "1b0 1a1 1b1", "a1 b1", ""},
		// It aborts, or does not end.
		{"r1(a) w1(a) r1(a) a1", "", "", "", ""},
		{"r1(a) w1(a) r1(a)", "", "", "", ""},
		{"w1(a)", "", "", "", ""},
		{"r1(a)", "", "", "", ""},
	})
}

// TestBehind: S1: deals one behind the other: each reads what was committed last, and nobody stands in the way.
func TestBehind(t *testing.T) {
	goes(t, []asked{
		{"w1(a) c1 r2(a) c2", "1 2", "2a1", "a1", ""},
		{"w2(a) c2 r1(a) c1", "2 1", "1a2", "a2", ""},
		{"r1(a) w1(a) c1 r2(a) w2(a) c2 r3(a) w3(a) c3", "1 2 3", "1a0 2a1 3a2", "a3", ""},
		{"w6(a) w6(b) c6 w5(b) w5(c) c5 r4(a) r4(b) r4(c) r4(d) c4", "6 5 4", "4a6 4b5 4c5 4d0", "a6 b5 c5", ""},
		// One that committed before this one began wrote what this one writes.
		{"w1(a) c1 w2(a) c2", "1 2", "", "a2", ""},
		{"w2(a) c2 w1(a) r1(a) c1 r3(a) c3", "2 1 3", "1a1 3a1", "a1", ""},
		{"w1(a) c1 r2(a) w2(a) r2(a) c2 r3(a) c3", "1 2 3", "2a1 2a2 3a2", "a2", ""},
		// Ends alone between them.
		{"w1(a) c1 c2 a3 r4(a) c4", "1 2 4", "4a1", "a1", ""},
		// It is who committed last that counts, not who has the greater number.
		{"w5(a) c5 w2(a) c2 r6(a) r6(b) c6", "5 2 6", "6a2 6b0", "a2", ""},
		// Aborted ones, and ones that do not end, ahead and behind.
		{"w1(a) a1 r2(a) c2", "2", "2a0", "", ""},
		{"w1(a) c1 w2(a) a2 r3(a) c3", "1 3", "3a1", "a1", ""},
		{"w1(a) c1 w2(a) r3(a) c3", "1 3", "3a1", "a1", ""},
		{"r1(a) c1 w2(a) r2(a) a2", "1", "1a0", "", ""},
	})
}

// TestReads: S1: a Read sees what was committed when its deal began, or what the deal wrote itself.
func TestReads(t *testing.T) {
	goes(t, []asked{
		// What another one wrote and has not committed.
		{"w1(a) r2(a) c2 c1", "2 1", "2a0", "a1", "1-2"},
		{"w3(a) c3 w1(a) r2(a) c2 c1", "3 2 1", "2a3", "a1", "1-2"},
		{"w1(a) r2(a) c1 c2", "1 2", "2a0", "a1", "1-2"},
		// What was committed since: of one that began by a Read of another item, by a Write, by the same Read.
		{"r2(b) w1(a) c1 r2(a) c2", "1 2", "2b0 2a0", "a1", "1-2"},
		{"w1(a) w2(c) c1 r2(a) c2", "1 2", "2a0", "a1 c2", "1-2"},
		{"r2(a) w1(a) c1 c2", "1 2", "2a0", "a1", "1-2"},
		{"w4(a) c4 r2(b) w1(a) c1 r2(a) c2", "4 1 2", "2b0 2a4", "a1", "1-2"},
		{"w4(a) c4 r2(b) w1(a) c1 w3(a) c3 r2(a) c2", "4 1 3 2", "2b0 2a4", "a3", "1-2 2-3"},
		// It began with the op that is just ahead of the Commit, and just behind it.
		{"w1(a) w1(b) w2(c) c1 r2(b) r2(a) c2", "1 2", "2b0 2a0", "a1 b1 c2", "1-2"},
		{"w1(a) w1(b) c1 w2(c) r2(b) r2(a) c2", "1 2", "2b1 2a1", "a1 b1 c2", ""},
		// Twice, with another one's Commit between, and with two.
		{"r2(a) w1(a) c1 r2(a) c2", "1 2", "2a0 2a0", "a1", "1-2"},
		{"w3(a) c3 r2(a) w1(a) c1 r2(a) w4(a) c4 r2(a) c2", "3 1 4 2", "2a3 2a3 2a3", "a4", "1-2 2-4"},
		// Of all that were committed by then the last one with that item.
		{"w1(a) c1 w2(a) c2 w3(b) c3 r5(f) w4(a) w4(b) c4 r5(a) r5(b) c5", "1 2 3 4 5", "5f0 5a2 5b3", "a4 b4", "4-5"},
		// What an aborted one wrote: by its own Abort, ahead of the Read and behind it; and at its Commit.
		{"w1(a) r2(b) a1 r2(a) c2", "2", "2b0 2a0", "", ""},
		{"w1(a) r2(a) a1 r2(a) c2", "2", "2a0 2a0", "", ""},
		{"w3(a) c3 w1(a) r1(a) a1 r2(a) c2", "3 2", "2a3", "a3", ""},
		{"w2(a) w2(b) w1(a) c1 c2 r3(a) r3(b) c3", "1 3", "3a1 3b0", "a1", ""},
		// Its own: ahead of all that was committed, before it began and since.
		{"w1(a) c1 w2(a) r2(a) c2", "1 2", "2a2", "a2", ""},
		{"w3(a) c3 r2(a) w2(a) w1(b) c1 r2(a) r2(b) c2", "3 1 2", "2a3 2a2 2b0", "a2 b1", "1-2"},
		// Its own of one item, what was committed of another one.
		{"w3(a) w3(b) c3 w2(a) r2(a) r2(b) c2", "3 2", "2a2 2b3", "a2 b3", ""},
	})
}

// TestWrites: S1: at its Commit a deal is aborted just if one that committed since it began wrote what it writes.
func TestWrites(t *testing.T) {
	goes(t, []asked{
		// What it writes: whoever wrote first, the first that commits is done.
		{"w1(a) w2(a) c1 c2", "1", "", "a1", ""},
		{"w2(a) w1(a) c1 c2", "1", "", "a1", ""},
		{"w1(a) w2(a) c2 c1", "2", "", "a2", ""},
		// It writes only behind that Commit, having begun ahead of it.
		{"r2(b) w1(a) c1 w2(a) c2", "1", "", "a1", ""},
		{"w2(b) w1(a) c1 w2(a) r2(a) c2", "1", "", "a1", ""},
		{"w1(a) c1 w2(a) c2", "1 2", "", "a2", ""},
		// It read it, and wrote it; read it from itself.
		{"r1(a) r2(a) w1(a) w2(a) c2 c1", "2", "2a0", "a2", ""},
		{"w2(a) r2(a) w1(a) c1 c2", "1", "", "a1", ""},
		// What it only read: it is done. What it never touched: too.
		{"r2(a) w1(a) c1 c2", "1 2", "2a0", "a1", "1-2"},
		{"r2(a) w2(b) w1(a) c1 c2", "1 2", "2a0", "a1 b2", "1-2"},
		{"r2(b) w1(a) c1 c2", "1 2", "2b0", "a1", "1-2"},
		{"w2(b) w1(a) c1 c2", "1 2", "", "a1 b2", "1-2"},
		// Each reads what the other one writes: both are done.
		{"r1(a) r2(b) w1(b) w2(a) c1 c2", "1 2", "1a0 2b0", "a2 b1", "1-2"},
		{"r1(a) r1(b) r2(a) r2(b) w1(a) w2(b) c2 c1", "2 1", "2a0 2b0 1a0 1b0", "a1 b2", "1-2"},
		// What the other one only read does not count.
		{"w2(a) r1(a) c1 c2", "1 2", "1a0", "a2", "1-2"},
		{"w2(a) r1(a) w1(b) c1 c2", "1 2", "1a0", "a2 b1", "1-2"},
		// The last of several, the first of several; one that committed ahead of its beginning, and one since.
		{"w6(a) w1(b) c1 w2(c) c2 w3(a) c3 c6", "1 2 3", "", "a3 b1 c2", ""},
		{"w6(a) w1(a) c1 w2(b) c2 w3(c) c3 c6", "1 2 3", "", "a1 b2 c3", ""},
		{"w1(a) c1 w6(a) w2(b) c2 c6", "1 2 6", "", "a6 b2", "2-6"},
		{"w1(b) c1 w6(a) w2(a) c2 c6", "1 2", "", "a2 b1", ""},
		// The last of several items, of the one and of the other one.
		{"w2(a) w2(b) w2(c) w1(d) w1(e) w1(c) c1 c2", "1", "", "c1 d1 e1", ""},
		{"w2(a) w2(b) w2(c) w1(d) w1(e) w1(f) c1 c2", "1 2", "", "a2 b2 c2 d1 e1 f1", "1-2"},
		{"w2(f) w2(b) w2(c) w1(f) w1(d) w1(e) c1 c2", "1", "", "d1 e1 f1", ""},
		// Who only reads is done, however late it ends, and whatever was written since.
		{"r6(a) r6(b) w1(a) c1 w2(b) c2 w3(a) w3(b) c3 r6(a) r6(b) c6", "1 2 3 6", "6a0 6b0 6a0 6b0", "a3 b3", "1-6 2-6 3-6"},
		// It begins with its Commit: whatever was written.
		{"w1(a) c1 c2", "1 2", "", "a1", ""},
		{"w3(a) w1(a) c2 c1 c3", "2 1", "", "a1", "1-2"},
	})
}

// TestAborted: S1: of two that write the same the first one is aborted, or does not end: it stands in nobody's way.
func TestAborted(t *testing.T) {
	goes(t, []asked{
		// By its own Abort, ahead of the other one's Write, Commit, and behind it.
		{"w1(a) r2(b) a1 w2(a) c2", "2", "2b0", "a2", ""},
		{"w1(a) w2(a) a1 c2", "2", "", "a2", ""},
		{"w1(a) w2(a) c2 a1", "2", "", "a2", ""},
		// It would have been aborted, and asks for its Abort itself.
		{"w2(a) w1(a) c1 a2", "1", "", "a1", ""},
		// At its Commit.
		{"w2(a) w2(b) w3(b) w1(a) c1 c2 c3", "1 3", "", "a1 b3", "1-3"},
		{"w2(a) w2(b) r3(b) w1(a) c1 c2 r3(b) c3", "1 3", "3b0 3b0", "a1", "1-3"},
		{"w2(a) w2(b) w1(a) c1 c2 r3(a) r3(b) w3(b) c3", "1 3", "3a1 3b0", "a1 b3", ""},
		// One after the other is aborted by the first: none of them stands in the way of the last.
		{"w2(a) w3(a) w4(b) w1(a) c1 w2(b) c2 w3(b) c3 c4", "1 4", "", "a1 b4", "1-4"},
		// It does not end.
		{"w1(a) w2(a) c2", "2", "", "a2", ""},
		{"w1(a) w2(a) c2 r1(a) w1(b)", "2", "", "a2", ""},
		{"r1(a) w2(a) c2 w1(b) r3(b) w3(b) c3", "2 3", "3b0", "a2 b3", ""},
		{"r1(a) w1(b) r2(b) w2(a) r3(a) w3(a)", "", "", "", ""},
		// It begins with its Abort.
		{"w1(a) a2 w3(a) c3 c1", "3", "", "a3", ""},
	})
}

// TestOrder: S1: the order of all that is told: deals as they committed, what each read in its own order.
func TestOrder(t *testing.T) {
	goes(t, []asked{
		{"c3 c1 c2", "3 1 2", "", "", ""},
		{"c6 c5 c4 c3 c2 c1", "6 5 4 3 2 1", "", "", ""},
		// Begun in another order than they commit.
		{"r1(a) r2(a) r3(a) c2 c3 c1", "2 3 1", "2a0 3a0 1a0", "", "1-2 1-3 2-3"},
		{"w1(a) w2(b) w3(c) c3 c1 c2", "3 1 2", "", "a1 b2 c3", "1-2 1-3 2-3"},
		// Reads by turns, each deal's are together, the last item first.
		{"r1(c) r2(b) r1(b) r2(c) r1(a) r2(a) c2 c1", "2 1", "2b0 2c0 2a0 1c0 1b0 1a0", "", "1-2"},
		{"r1(a) r1(b) r1(a) r1(a) r1(b) c1", "1", "1a0 1b0 1a0 1a0 1b0", "", ""},
		// From itself, another one, and nobody.
		{"w1(b) c1 w2(c) r2(c) r2(b) r2(a) r2(c) c2", "1 2", "2c2 2b1 2a0 2c2", "b1 c2", ""},
		{"w4(a) w4(b) c4 r2(f) r5(b) w5(b) r2(a) r5(b) r2(b) r5(f) c2 c5", "4 2 5", "2f0 2a4 2b4 5b4 5b5 5f0", "a4 b5", "2-5"},
		// Between them those that are aborted, and one that does not end.
		{"w3(a) r1(a) r2(b) w4(a) r5(c) r6(d) c5 c4 c3 a6 c2", "5 4 2", "5c0 2b0", "a4", "2-4 2-5 4-5"},
		// Last: all six, by several, and who committed last with it.
		{"w6(a) w6(f) c6 w2(b) w2(f) c2 w4(c) c4", "6 2 4", "", "a6 b2 c4 f2", ""},
	})
}

// TestTogether: S1: which two of those that are done ran at once.
func TestTogether(t *testing.T) {
	goes(t, []asked{
		// None is done, and one.
		{"r1(a) r2(a) r3(a)", "", "", "", ""},
		{"r1(a) r2(a) a1 a2", "", "", "", ""},
		{"r1(a) r2(a) c1", "1", "1a0", "", ""},
		// One ended before the other one began.
		{"r1(a) c1 r2(a) c2", "1 2", "1a0 2a0", "", ""},
		{"r2(a) c2 r1(a) c1", "2 1", "2a0 1a0", "", ""},
		// One began between the other one's first op and its Commit, and ends first, or last.
		{"r1(a) r2(a) c2 c1", "2 1", "2a0 1a0", "", "1-2"},
		{"r1(a) r2(a) c1 c2", "1 2", "1a0 2a0", "", "1-2"},
		{"r2(a) r1(a) c2 c1", "2 1", "2a0 1a0", "", "1-2"},
		{"r2(a) r1(a) c1 c2", "1 2", "1a0 2a0", "", "1-2"},
		{"r5(a) r5(a) w2(b) w2(c) c2 r5(a) r5(b) c5", "2 5", "5a0 5a0 5a0 5b0", "b2 c2", "2-5"},
		// It begins with its Commit: within another one, ahead of it, behind it; two of them.
		{"r1(a) c2 c1", "2 1", "1a0", "", "1-2"},
		{"r2(a) c1 c2", "1 2", "2a0", "", "1-2"},
		{"c2 r1(a) c1", "2 1", "1a0", "", ""},
		{"r1(a) c1 c2", "1 2", "1a0", "", ""},
		{"c1 c2", "1 2", "", "", ""},
		{"r3(a) c2 c1 c3", "2 1 3", "3a0", "", "1-3 2-3"},
		// Those that are aborted, by their Abort or at their Commit, and those that do not end are in no pair.
		{"r1(a) r2(a) r3(a) c1 a2 c3", "1 3", "1a0 3a0", "", "1-3"},
		{"w1(a) w2(a) r3(a) c1 c2 c3", "1 3", "3a0", "a1", "1-3"},
		{"r1(a) r2(a) r3(a) c1 c3", "1 3", "1a0 3a0", "", "1-3"},
		{"r1(a) r2(a) c1 a2", "1", "1a0", "", ""},
		// An aborted one between joins nobody: 1 had committed when 3 began.
		{"r1(a) r2(a) c1 r3(a) a2 c3", "1 3", "1a0 3a0", "", ""},
		// A chain: each with the next one alone.
		{"r1(a) r2(a) c1 r3(a) c2 r4(a) c3 c4", "1 2 3 4", "1a0 2a0 3a0 4a0", "", "1-2 2-3 3-4"},
		{"r6(a) r1(a) c6 r5(a) c1 r2(a) c5 c2", "6 1 5 2", "6a0 1a0 5a0 2a0", "", "1-5 1-6 2-5"},
		// All with all, whatever the order; one with all.
		{"r6(a) r3(a) r1(a) r5(a) r2(a) r4(a) c3 c1 c6 c2 c5 c4", "3 1 6 2 5 4", "3a0 1a0 6a0 2a0 5a0 4a0", "",
			"1-2 1-3 1-4 1-5 1-6 2-3 2-4 2-5 2-6 3-4 3-5 3-6 4-5 4-6 5-6"},
		{"r4(a) c6 c2 c5 c1 c3 c4", "6 2 5 1 3 4", "4a0", "", "1-4 2-4 3-4 4-5 4-6"},
	})
}

// TestMost: S1 at MaxOps ops: of all deals at once, of one, of one that is aborted at the last of them, and of one that does not end.
func TestMost(t *testing.T) {
	var all []api.Op
	var want api.Outcome
	for tx := api.MaxTx; tx >= 1; tx-- {
		all = append(all, read(tx, 1), write(tx, tx), read(tx, tx), read(tx, 2))
	}
	for tx := 1; tx <= api.MaxTx; tx++ {
		all = append(all, commit(tx))
		second := 0
		if tx == 2 {
			second = tx
		}
		want.Done = append(want.Done, tx)
		want.Seen = append(want.Seen, api.Seen{Tx: tx, Item: 1}, api.Seen{Tx: tx, Item: tx, From: tx}, api.Seen{Tx: tx, Item: 2, From: second})
	}
	for len(all) < api.MaxOps {
		all = slices.Insert(all, 0, read(1, api.MaxItem))
		want.Seen = slices.Insert(want.Seen, 0, api.Seen{Tx: 1, Item: api.MaxItem})
	}
	want.Last = []int{1, 2, 3, 4, 5, 6}
	alone := append(slices.Repeat([]api.Op{write(1, 1)}, api.MaxOps-1), commit(1))
	fallen := slices.Concat([]api.Op{read(2, 1), write(1, 3), commit(1)}, slices.Repeat([]api.Op{write(2, 3)}, api.MaxOps-4), []api.Op{commit(2)})
	for _, k := range []struct {
		l     []api.Op
		want  api.Outcome
		pairs int
	}{
		{all, want, api.MaxTx * (api.MaxTx - 1) / 2},
		{alone, api.Outcome{Done: []int{1}, Last: []int{1, 0, 0, 0, 0, 0}}, 0},
		{fallen, api.Outcome{Done: []int{1}, Last: []int{0, 0, 1, 0, 0, 0}}, 0},
		{slices.Repeat([]api.Op{write(6, 6)}, api.MaxOps), api.Outcome{Last: make([]int, api.MaxItem)}, 0},
	} {
		out, err := snap.Run(k.l)
		if err != nil || len(k.l) != api.MaxOps || !equal(out, k.want) {
			t.Errorf("%q: got %v %v, want %v", text(t, k.l), out, err, k.want)
		}
		if pairs, err := snap.Together(k.l); err != nil || len(pairs) != k.pairs {
			t.Errorf("%q: got %v %v, want %d", text(t, k.l), pairs, err, k.pairs)
		}
		byWords(t, k.l)
	}
}

// TestMemory: P2 and P4 of DOC.md.
func TestMemory(t *testing.T) {
	whole := append(ops(t, "w3(a) r1(b) c3 r2(a) w2(b) r4(c) c2 c4 c1 r5(b)"), read(0, 0), commit(1), api.Op{Tx: 9, What: 9, Item: 9})
	kept := slices.Clone(whole)
	n := len(whole) - 3
	first, err := snap.Run(whole[:n])
	pairs, bad := snap.Together(whole[:n])
	if err != nil || bad != nil || len(first.Done) < 3 || len(first.Seen) < 2 || len(pairs) < 2 {
		t.Fatalf("got %v %v, %v %v", first, err, pairs, bad)
	}
	was, ran := clone(first), slices.Clone(pairs)
	clear(first.Done[:cap(first.Done)])
	if !slices.Equal(first.Seen, was.Seen) || !slices.Equal(first.Last, was.Last) {
		t.Errorf("what was told behind Done is now %v", first)
	}
	clear(first.Seen[:cap(first.Seen)])
	clear(first.Last[:cap(first.Last)])
	clear(pairs[:cap(pairs)])
	if !slices.Equal(whole, kept) {
		t.Fatalf("what was handed in is now %v", whole)
	}
	second, err := snap.Run(whole[:n])
	again, bad := snap.Together(whole[:n])
	if err != nil || bad != nil || !equal(second, was) || !slices.Equal(again, ran) {
		t.Errorf("again: got %v %v, %v %v, want %v, %v", second, err, again, bad, was, ran)
	}
	clear(whole)
	if !equal(second, was) || !slices.Equal(again, ran) {
		t.Errorf("what was told is now %v, %v", second, again)
	}
}

// causes: how often each thing came to be: a deal is done, or falls; a Read sees
// what is no more the last; others wrote since what a deal only read; others
// wrote what a deal writes before it began; two ran at once, or did not.
type causes struct{ done, falls, old, onlyRead, before, pairs, apart int }

func (c *causes) add(d causes) {
	c.done += d.done
	c.falls += d.falls
	c.old += d.old
	c.onlyRead += d.onlyRead
	c.before += d.before
	c.pairs += d.pairs
	c.apart += d.apart
}

// notes are right ops, and at which places a deal was done.
type notes struct {
	l    []api.Op
	done []int
}

// begin of a deal: the place of its first op.
func (n notes) begin(tx int) int {
	return slices.IndexFunc(n.l, func(o api.Op) bool { return o.Tx == tx })
}

// wroteAhead tells whether a deal wrote an item ahead of a place.
func (n notes) wroteAhead(tx, item, at int) bool {
	return slices.Contains(n.l[:at], write(tx, item))
}

// lastAhead of a place who committed with an item.
func (n notes) lastAhead(item, at int) int {
	last := 0
	for _, end := range n.done {
		if end < at && n.wroteAhead(n.l[end].Tx, item, end) {
			last = n.l[end].Tx
		}
	}
	return last
}

// from whom the Read at a place reads.
func (n notes) from(at int) int {
	o := n.l[at]
	if n.wroteAhead(o.Tx, o.Item, at) {
		return o.Tx
	}
	return n.lastAhead(o.Item, n.begin(o.Tx))
}

// fall: whether a deal is aborted at this place, which is its Commit; and what came to be by the way.
func (n notes) fall(at int, c *causes) bool {
	tx, falls := n.l[at].Tx, false
	for _, end := range n.done {
		for item := 1; item <= api.MaxItem; item++ {
			switch {
			case !n.wroteAhead(n.l[end].Tx, item, end):
			case !n.wroteAhead(tx, item, at):
				if end > n.begin(tx) && slices.Contains(n.l[:at], read(tx, item)) {
					c.onlyRead++
				}
			case end < n.begin(tx):
				c.before++
			default:
				falls = true
			}
		}
	}
	if falls {
		c.falls++
	}
	return falls
}

// together: the pairs of those that are done neither of which had committed when the other one began.
func (n notes) together(c *causes) []api.Edge {
	var pairs []api.Edge
	for _, a := range n.done {
		for _, b := range n.done {
			x, y := n.l[a].Tx, n.l[b].Tx
			switch {
			case x >= y:
			case a < n.begin(y) || b < n.begin(x):
				c.apart++
			default:
				c.pairs++
				pairs = append(pairs, api.Edge{From: x, To: y})
			}
		}
	}
	slices.SortFunc(pairs, func(d, e api.Edge) int {
		return cmp.Or(cmp.Compare(d.From, e.From), cmp.Compare(d.To, e.To))
	})
	return pairs
}

// run of right ops, as the promise's words have it: all is read off what was asked, and where deals were done.
func run(l []api.Op) (out api.Outcome, pairs []api.Edge, c causes) {
	n := notes{l: l}
	for at, o := range l {
		if o.What == api.Commit && !n.fall(at, &c) {
			n.done = append(n.done, at)
		}
	}
	c.done = len(n.done)
	out.Last = make([]int, api.MaxItem)
	for _, end := range n.done {
		out.Done = append(out.Done, l[end].Tx)
		for at, o := range l[:end] {
			switch {
			case o.Tx != l[end].Tx:
			case o.What == api.Read:
				from := n.from(at)
				if from != o.Tx && from != n.lastAhead(o.Item, at) {
					c.old++
				}
				out.Seen = append(out.Seen, api.Seen{Tx: o.Tx, Item: o.Item, From: from})
			default:
				out.Last[o.Item-1] = o.Tx
			}
		}
	}
	return out, n.together(&c), c
}

// byWords holds what comes of right ops against the promise's words, and against what is to be true of the whole.
func byWords(t *testing.T, l []api.Op) causes {
	t.Helper()
	out, err := snap.Run(l)
	pairs, bad := snap.Together(l)
	want, ran, c := run(l)
	if err != nil || !equal(out, want) {
		t.Fatalf("%q: got %v %v, want %v", text(t, l), out, err, want)
	}
	if bad != nil || !slices.Equal(pairs, ran) {
		t.Fatalf("%q: together: got %v %v, want %v", text(t, l), pairs, bad, ran)
	}
	sameAgain(t, l, out)
	nobodyOver(t, l, pairs)
	readersAreDone(t, l, out)
	justThose(t, l, out, pairs)
	return c
}

// sameAgain: who reads an item again sees the same, till it writes it itself.
func sameAgain(t *testing.T, l []api.Op, out api.Outcome) {
	t.Helper()
	for _, s := range out.Seen {
		for _, r := range out.Seen {
			if s.Tx == r.Tx && s.Item == r.Item && s.From != r.From && s.From != s.Tx && r.From != r.Tx {
				t.Fatalf("%q: got %v, by which one saw %v and %v", text(t, l), out, s, r)
			}
		}
	}
}

// nobodyOver: of two that ran at once none wrote what the other one did.
func nobodyOver(t *testing.T, l []api.Op, pairs []api.Edge) {
	t.Helper()
	for _, e := range pairs {
		for item := 1; item <= api.MaxItem; item++ {
			if slices.Contains(l, write(e.From, item)) && slices.Contains(l, write(e.To, item)) {
				t.Fatalf("%q: together: got %v, of whom both wrote %s", text(t, l), e, letter(item))
			}
		}
	}
}

// readersAreDone: who wrote nothing and asks to commit is done.
func readersAreDone(t *testing.T, l []api.Op, out api.Outcome) {
	t.Helper()
	for tx := 1; tx <= api.MaxTx; tx++ {
		wrote := slices.ContainsFunc(l, func(o api.Op) bool { return o.Tx == tx && o.What == api.Write })
		if !wrote && slices.Contains(l, commit(tx)) && !slices.Contains(out.Done, tx) {
			t.Fatalf("%q: got %v, without %d, which only read", text(t, l), out, tx)
		}
	}
}

// justThose: if just those that are done ask, the same comes of it; if they do so one behind
// the other, all are done, none at once, and it is as chapter 11 has it.
func justThose(t *testing.T, l []api.Op, out api.Outcome, pairs []api.Edge) {
	t.Helper()
	just := slices.DeleteFunc(slices.Clone(l), func(o api.Op) bool { return !slices.Contains(out.Done, o.Tx) })
	again, err := snap.Run(just)
	ran, bad := snap.Together(just)
	if err != nil || bad != nil || !equal(again, out) || !slices.Equal(ran, pairs) {
		t.Fatalf("%q: got %v, %v, but of %q %v %v, %v %v", text(t, l), out, pairs, text(t, just), again, err, ran, bad)
	}
	laid, err := serial.Serial(just, out.Done)
	if err != nil {
		t.Fatalf("%q by %v: %v", text(t, just), out.Done, err)
	}
	behind, err := snap.Run(laid)
	none, bad := snap.Together(laid)
	looked, _ := valid.Run(laid)
	if err != nil || bad != nil || len(none) > 0 || !slices.Equal(behind.Done, out.Done) || !equal(behind, looked) {
		t.Fatalf("%q: got %v %v, %v %v, want %v", text(t, laid), behind, err, none, bad, looked)
	}
	if len(pairs) == 0 && !equal(behind, out) {
		t.Fatalf("%q: got %v, but of %q %v", text(t, l), out, text(t, laid), behind)
	}
}

// over tells whether a deal ends.
func over(l []api.Op, tx int) bool {
	return slices.Contains(l, commit(tx)) || slices.Contains(l, abort(tx))
}

// grow goes over all ops of at most n, each of which is one of these, and whose deals are done with an end.
func grow(n int, some []api.Op, see func(l []api.Op)) {
	var l []api.Op
	var more func()
	more = func() {
		see(l)
		if len(l) == n {
			return
		}
		for _, o := range some {
			if !over(l, o.Tx) {
				l = append(l, o)
				more()
				l = l[:len(l)-1]
			}
		}
	}
	more()
}

// TestSmall: S1: all ops of few deals on few items, as they are, and where all commit at last.
func TestSmall(t *testing.T) {
	for _, k := range []struct{ deals, items, n int }{{2, 1, 5}, {2, 2, 4}, {3, 1, 4}, {3, 2, 3}} {
		var some []api.Op
		for tx := 1; tx <= k.deals; tx++ {
			for item := 1; item <= k.items; item++ {
				some = append(some, read(tx, item), write(tx, item))
			}
			some = append(some, commit(tx), abort(tx))
		}
		grow(k.n, some, func(l []api.Op) {
			all := slices.Clone(l)
			for tx := 1; tx <= k.deals; tx++ {
				if !over(l, tx) {
					all = append(all, commit(tx))
				}
			}
			byWords(t, l)
			byWords(t, all)
		})
	}
}

// roller gives numbers below n, by a rule that mixes them.
func roller() func(n int) int {
	mixed := uint64(1)
	return func(n int) int {
		mixed = mixed*6364136223846793005 + 1442695040888963407
		return int(mixed>>33) % n
	}
}

// mixed ops of up to six deals on up to six items: each deal asks for some, and then mostly to end, by turns.
func mixed(roll func(int) int) []api.Op {
	deals, items := roll(api.MaxTx-1)+2, roll(api.MaxItem)+1
	var left [][]api.Op
	for tx := 1; tx <= deals; tx++ {
		var some []api.Op
		for range roll(api.MaxOps / deals) {
			some = append(some, api.Op{Tx: tx, What: roll(2) + 1, Item: roll(items) + 1})
		}
		if end := roll(9); end > 0 {
			some = append(some, api.Op{Tx: tx, What: api.Commit + end/8})
		}
		left = append(left, some)
	}
	var l []api.Op
	for len(left) > 0 {
		at := roll(len(left))
		if len(left[at]) == 0 {
			left = slices.Delete(left, at, at+1)
			continue
		}
		l = append(l, left[at][0])
		left[at] = left[at][1:]
	}
	return l
}

// TestGreat: S1: many ops, mixed.
func TestGreat(t *testing.T) {
	roll := roller()
	var sum causes
	for range 8_000 {
		sum.add(byWords(t, mixed(roll)))
	}
	if min(sum.done, sum.falls, sum.old, sum.onlyRead, sum.before, sum.pairs, sum.apart) < 1_000 {
		t.Errorf("%+v: too few to tell", sum)
	}
}
