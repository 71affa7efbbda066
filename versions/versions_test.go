package versions_test

import (
	"math"
	"slices"
	"strconv"
	"strings"
	"testing"

	"locklane/api"
	"locklane/history"
	"locklane/plain"
	"locklane/serial"
	"locklane/versions"
	"locklane/view"
)

func read(tx, item int) api.Op  { return api.Op{Tx: tx, What: api.Read, Item: item} }
func write(tx, item int) api.Op { return api.Op{Tx: tx, What: api.Write, Item: item} }
func commit(tx int) api.Op      { return api.Op{Tx: tx, What: api.Commit} }
func abort(tx int) api.Op       { return api.Op{Tx: tx, What: api.Abort} }

// ops of a text that is right.
func ops(t *testing.T, text string) []api.Op {
	t.Helper()
	l, err := history.Parse(text)
	if err != nil {
		t.Fatalf("%q: %v", text, err)
	}
	return l
}

// text of ops that are right.
func text(t *testing.T, l []api.Op) string {
	t.Helper()
	s, err := history.Print(l)
	if err != nil {
		t.Fatalf("%v: %v", l, err)
	}
	return s
}

// letter of an item.
func letter(item int) string { return string(rune('a' + item - 1)) }

// words of an outcome: `1 2`, `1a0 2b2` (1 read a from nobody, 2 read b from itself), `a2 b1` (2 wrote a last, 1 wrote b last).
func words(out api.Outcome) (done, seen, last string) {
	var d, s, l []string
	for _, tx := range out.Done {
		d = append(d, strconv.Itoa(tx))
	}
	for _, r := range out.Seen {
		s = append(s, strconv.Itoa(r.Tx)+letter(r.Item)+strconv.Itoa(r.From))
	}
	for at, tx := range out.Last {
		if tx != 0 {
			l = append(l, letter(at+1)+strconv.Itoa(tx))
		}
	}
	return strings.Join(d, " "), strings.Join(s, " "), strings.Join(l, " ")
}

// equal tells whether outcomes are, an empty list and nil being the same.
func equal(a, b api.Outcome) bool {
	return slices.Equal(a.Done, b.Done) && slices.Equal(a.Seen, b.Seen) && slices.Equal(a.Last, b.Last)
}

func clone(out api.Outcome) api.Outcome {
	return api.Outcome{Done: slices.Clone(out.Done), Seen: slices.Clone(out.Seen), Last: slices.Clone(out.Last)}
}

// asked is what deals ask for, and what comes of it, as words has it.
type asked struct{ ops, done, seen, last string }

// goes holds what comes of ops against what should, and against the promise's words.
func goes(t *testing.T, all []asked) {
	t.Helper()
	for _, k := range all {
		l := ops(t, k.ops)
		out, err := versions.Run(l)
		done, seen, last := words(out)
		if err != nil || done != k.done || seen != k.seen || last != k.last {
			t.Errorf("%q: got %q %q %q %v, want %q %q %q", k.ops, done, seen, last, err, k.done, k.seen, k.last)
		}
		byWords(t, l)
	}
}

// rich is n ops by which some are done, and 1 is aborted at its Commit.
func rich(n int) []api.Op {
	l := []api.Op{read(2, 1), write(1, 1), read(1, 1), commit(1), commit(2), read(3, 1)}
	for len(l) < n {
		l = append(l, write(3, 2))
	}
	return l[:n]
}

// with is rich, and these ops behind it.
func with(more ...api.Op) []api.Op { return append(rich(6), more...) }

// but is rich, of n ops, of which one is another op.
func but(n, at int, o api.Op) []api.Op {
	l := rich(n)
	l[at] = o
	return l
}

// TestWrong: V1: Check's error is told, and nothing with it.
func TestWrong(t *testing.T) {
	for _, k := range []struct {
		name string
		l    []api.Op
		err  api.Errno
	}{
		{"one more than MaxOps", rich(api.MaxOps + 1), api.ErrFull},
		{"far more", rich(1000), api.ErrFull},
		{"too many, and one of no deal", but(api.MaxOps+1, 0, read(0, 1)), api.ErrFull},
		{"too many, and one behind its commit", but(api.MaxOps+1, api.MaxOps, read(2, 1)), api.ErrFull},
		{"first of MaxOps", but(api.MaxOps, 0, read(7, 1)), api.ErrRange},
		{"last of MaxOps", but(api.MaxOps, api.MaxOps-1, read(1, 0)), api.ErrRange},
		{"alone, of no deal", []api.Op{commit(0)}, api.ErrRange},
		{"deal 0", with(read(0, 1)), api.ErrRange},
		{"deal below 0", with(write(-1, 1)), api.ErrRange},
		{"deal beyond", with(commit(api.MaxTx + 1)), api.ErrRange},
		{"abort of a deal beyond", with(abort(api.MaxTx + 1)), api.ErrRange},
		{"greatest deal", with(read(math.MaxInt, 1)), api.ErrRange},
		{"least deal", with(commit(math.MinInt)), api.ErrRange},
		{"what 0", with(api.Op{Tx: 3, Item: 1}), api.ErrRange},
		{"what below 0", with(api.Op{Tx: 3, What: -1, Item: 1}), api.ErrRange},
		{"what beyond", with(api.Op{Tx: 3, What: api.Abort + 1}), api.ErrRange},
		{"item 0 read", with(read(3, 0)), api.ErrRange},
		{"item 0 written", with(write(3, 0)), api.ErrRange},
		{"item below 0", with(write(3, -1)), api.ErrRange},
		{"item beyond", with(read(3, api.MaxItem+1)), api.ErrRange},
		{"greatest item", with(write(3, math.MaxInt)), api.ErrRange},
		{"least item", with(read(3, math.MinInt)), api.ErrRange},
		{"commit of an item", with(api.Op{Tx: 3, What: api.Commit, Item: 1}), api.ErrRange},
		{"abort of an item", with(api.Op{Tx: 3, What: api.Abort, Item: 1}), api.ErrRange},
		{"behind its commit", with(read(2, 1)), api.ErrState},
		{"behind its abort", with(abort(3), write(3, 1)), api.ErrState},
		{"commit twice", with(commit(2)), api.ErrState},
		{"abort twice", with(abort(3), abort(3)), api.ErrState},
		{"abort, then commit", with(abort(3), commit(3)), api.ErrState},
		{"of one that is aborted at its commit, a read", with(read(1, 1)), api.ErrState},
		{"of one that is aborted at its commit, a commit again", with(commit(1)), api.ErrState},
		{"of one that is aborted at its commit, an abort", with(abort(1)), api.ErrState},
		{"alone, commit twice", []api.Op{commit(1), commit(1)}, api.ErrState},
		{"range, then state", with(read(0, 1), read(1, 1)), api.ErrRange},
		{"state, then range", with(read(1, 1), read(0, 1)), api.ErrState},
	} {
		out, err := versions.Run(k.l)
		if plain.Told(err) != k.err || len(out.Done)+len(out.Seen)+len(out.Last) > 0 {
			t.Errorf("%s: got %v %v, want %v", k.name, out, err, k.err)
		}
	}
	goes(t, []asked{{text(t, with()), "2", "2a0", ""}})
}

// TestAlone: V1: no ops, and one deal alone.
func TestAlone(t *testing.T) {
	for _, none := range [][]api.Op{nil, {}} {
		out, err := versions.Run(none)
		if err != nil || len(out.Done)+len(out.Seen) > 0 || !slices.Equal(out.Last, make([]int, api.MaxItem)) {
			t.Errorf("no ops: got %v %v", out, err)
		}
	}
	goes(t, []asked{
		{"", "", "", ""},
		// It begins with its Commit, or its Abort.
		{"c1", "1", "", ""},
		{"c6", "6", "", ""},
		{"a1", "", "", ""},
		// It reads, writes, and does both; the least and the greatest there are.
		{"r1(a) c1", "1", "1a0", ""},
		{"r6(f) c6", "6", "6f0", ""},
		{"w1(a) c1", "1", "", "a1"},
		{"w6(f) c6", "6", "", "f6"},
		{"r1(a) w1(b) c1", "1", "1a0", "b1"},
		{"w3(a) w3(b) w3(c) w3(d) w3(e) w3(f) c3", "3", "", "a3 b3 c3 d3 e3 f3"},
		{"r3(f) r3(e) r3(d) r3(c) r3(b) r3(a) c3", "3", "3f0 3e0 3d0 3c0 3b0 3a0", ""},
		// What it has seen itself does not hinder it: from nobody, then from itself.
		{"r1(a) w1(a) c1", "1", "1a0", "a1"},
		{"r6(a) w6(a) r6(a) c6", "6", "6a0 6a6", "a6"},
		// It aborts, or does not end.
		{"r1(a) w1(a) r1(a) a1", "", "", ""},
		{"w1(a) w1(b) a1", "", "", ""},
		{"r1(a) w1(a) r1(a)", "", "", ""},
		{"w1(a)", "", "", ""},
		{"r1(a)", "", "", ""},
	})
}

// TestSees: V1: what a Read sees.
func TestSees(t *testing.T) {
	goes(t, []asked{
		// What the deal wrote itself, ahead of whatever was committed by a lesser or a greater one.
		{"w2(a) r2(a) c2", "2", "2a2", "a2"},
		{"w1(a) c1 w2(a) r2(a) c2", "1 2", "2a2", "a2"},
		{"w2(a) w1(a) c1 r2(a) c2", "1 2", "2a2", "a2"},
		{"w3(a) c3 w2(a) r2(a) c2", "2 3", "2a2", "a3"},
		{"r2(a) w2(a) r2(a) w2(a) r2(a) c2", "2", "2a0 2a2 2a2", "a2"},
		{"w1(a) c1 r2(a) w2(a) r2(a) c2", "1 2", "2a1 2a2", "a2"},
		// Of another item it wrote it does not see itself.
		{"w2(a) r2(b) c2", "2", "2b0", "a2"},
		{"w1(b) c1 w2(a) r2(b) r2(a) c2", "1 2", "2b1 2a2", "a2 b1"},
		// Of a lesser one, by then: ahead of its Commit, and behind it, whenever this one began.
		{"w1(a) c1 r2(a) c2", "1 2", "2a1", "a1"},
		{"r2(b) w1(a) c1 r2(a) c2", "1 2", "2b0 2a1", "a1"},
		{"w1(a) r2(b) c1 r2(a) c2", "1 2", "2b0 2a1", "a1"},
		{"w1(a) w2(b) c1 r2(a) r2(a) c2", "1 2", "2a1 2a1", "a1 b2"},
		{"w1(f) c1 r6(f) c6", "1 6", "6f1", "f1"},
		// Never of a greater one, though nobody else wrote it, and though it was committed long ago.
		{"w2(a) c2 r1(a) c1", "1 2", "1a0", "a2"},
		{"w6(a) c6 r5(a) c5", "5 6", "5a0", "a6"},
		{"w1(a) c1 w3(a) c3 r2(a) c2", "1 2 3", "2a1", "a3"},
		{"w3(a) c3 w1(a) c1 r2(a) c2", "1 2 3", "2a1", "a3"},
		// Of several lesser ones the greatest, in whatever order they committed, wrote and began.
		{"w1(a) c1 w2(a) c2 r3(a) c3", "1 2 3", "3a2", "a2"},
		{"w2(a) c2 w1(a) c1 r3(a) c3", "1 2 3", "3a2", "a2"},
		{"w1(a) w2(a) c2 c1 r3(a) c3", "1 2 3", "3a2", "a2"},
		{"w4(a) w1(a) w2(a) c2 c4 c1 r5(a) r3(a) c3 c5", "1 2 3 4 5", "3a2 5a4", "a4"},
		{"w3(a) c3 w5(a) c5 w1(a) c1 w4(b) c4 r6(a) c6", "1 3 4 5 6", "6a5", "a5 b4"},
		{"w5(a) c5 w4(a) c4 w3(a) c3 w2(a) c2 w1(a) c1 r6(a) c6", "1 2 3 4 5 6", "6a5", "a5"},
		// The greatest that is not, as it wrote another item.
		{"w1(a) c1 w2(b) c2 r3(a) r3(b) r3(c) c3", "1 2 3", "3a1 3b2 3c0", "a1 b2"},
		// Not what one wrote that has not committed by then, though it does later: that one is aborted.
		{"w1(a) r2(a) c1 c2", "2", "2a0", ""},
		{"w1(a) c1 w2(a) r3(a) c3 c2", "1 3", "3a1", "a1"},
		// Nor what one wrote that was aborted: by its own Abort, ahead and behind, or at its Commit.
		{"w1(a) a1 r2(a) c2", "2", "2a0", ""},
		{"w1(a) r2(a) a1 r2(a) c2", "2", "2a0 2a0", ""},
		{"w1(a) c1 w2(a) a2 r3(a) c3", "1 3", "3a1", "a1"},
		{"w1(a) w1(b) r2(b) c1 r3(a) c3 c2", "2 3", "2b0 3a0", ""},
		{"w1(a) c1 w2(a) w2(b) r3(b) c2 r4(a) c4 c3", "1 3 4", "3b0 4a1", "a1"},
		// Nor what one wrote that does not end.
		{"w1(a) r2(a) c2", "2", "2a0", ""},
		{"w1(a) c1 w2(a) r3(a) c3", "1 3", "3a1", "a1"},
		// The same item twice, before and after a lesser one commits, which is hindered by the first.
		{"w1(a) r2(a) c1 r2(a) c2", "2", "2a0 2a0", ""},
		// And one between which nothing hinders: a lesser one than that which was seen.
		{"w2(a) c2 w1(a) r3(a) c1 r3(a) c3", "1 2 3", "3a2 3a2", "a2"},
	})
}

// TestFalls: V1: who is aborted at its Commit: a greater one has seen the item as it was ahead of this one.
func TestFalls(t *testing.T) {
	goes(t, []asked{
		// 0, by one that is done, does not end (now, and at all), has aborted, aborts later.
		{"w1(a) r2(a) c2 c1", "2", "2a0", ""},
		{"r2(a) c2 w1(a) c1", "2", "2a0", ""},
		{"w1(a) r2(a) c1 c2", "2", "2a0", ""},
		{"w1(a) r2(a) c1", "", "", ""},
		{"w1(a) r2(a) a2 c1", "", "", ""},
		{"r2(a) a2 w1(a) c1", "", "", ""},
		{"w1(a) r2(a) c1 a2", "", "", ""},
		// By one that was aborted at its Commit: 2, for what 3 has seen.
		{"r2(a) w2(b) r3(b) c2 w1(a) c1 c3", "3", "3b0", ""},
		{"r2(a) w2(b) r3(b) c3 c2 w1(a) c1", "3", "3b0", ""},
		// By one that falls later.
		{"r2(a) w2(b) r3(b) w1(a) c1 c2 c3", "3", "3b0", ""},
		// What a lesser one wrote.
		{"w1(a) c1 r3(a) w2(a) c2 c3", "1 3", "3a1", "a1"},
		{"w1(a) c1 w2(a) r3(a) c3 c2", "1 3", "3a1", "a1"},
		{"w1(a) c1 r3(a) w2(a) c2", "1", "", "a1"},
		{"w1(a) c1 r3(a) a3 w2(a) c2", "1", "", "a1"},
		{"w4(a) c4 r6(a) w5(a) c5 c6", "4 6", "6a4", "a4"},
		{"w1(a) c1 w2(a) c2 r6(a) w5(a) c5 w3(a) c3 c6", "1 2 6", "6a2", "a2"},
		// The greatest and the next ones; the least and the greatest.
		{"w5(f) r6(f) c5 c6", "6", "6f0", ""},
		{"w1(f) r6(f) c6 c1", "6", "6f0", ""},
		// The reader has seen it first, and wrote it then; and later wrote it itself and saw that.
		{"r2(a) w2(a) c2 w1(a) c1", "2", "2a0", "a2"},
		{"r2(a) w2(a) r2(a) w1(a) c1 c2", "2", "2a0 2a2", "a2"},
		// One of several items written, of several that were read, of several readers.
		{"w1(a) w1(b) w1(c) r2(c) c1 c2", "2", "2c0", ""},
		{"w1(c) w1(b) w1(a) r2(f) r2(e) r2(c) r2(d) c1 c2", "2", "2f0 2e0 2c0 2d0", ""},
		{"w1(a) r3(b) r2(c) r6(a) r5(d) c2 c3 c5 c6 c1", "2 3 5 6", "2c0 3b0 5d0 6a0", ""},
		{"w2(a) r1(a) r3(a) c1 c2 c3", "1 3", "1a0 3a0", ""},
		// A greater one has seen what is no hindrance, and another one what is.
		{"w3(a) c3 r4(a) w1(a) r2(a) c1 c2 c4", "2 3 4", "2a0 4a3", "a3"},
		{"w1(a) w2(a) r2(a) r3(a) c1 c2 c3", "3", "3a0", ""},
		// It read the item itself: the greater one counts all the same.
		{"r1(a) w1(a) r2(a) w2(a) c1 c2", "2", "2a0", "a2"},
		{"r1(a) w1(a) r2(a) w2(a) c2 c1", "2", "2a0", "a2"},
		// Each reads what the other one writes: the greater one is done, whoever ends first.
		{"r1(a) r2(b) w1(b) w2(a) c1 c2", "2", "2b0", "a2"},
		{"r1(a) r2(b) w1(b) w2(a) c2 c1", "2", "2b0", "a2"},
		// All but the greatest fall.
		{"r6(a) w1(a) w2(a) w3(a) w4(a) w5(a) c5 c4 c3 c2 c1 c6", "6", "6a0", ""},
		// It is written once behind the Read, after being written ahead of it.
		{"w1(a) r2(a) w1(a) c1 c2", "2", "2a0", ""},
	})
}

// TestHindersNot: V1: what hinders nothing, so that a deal is done.
func TestHindersNot(t *testing.T) {
	goes(t, []asked{
		// Who wrote nothing is done, whatever others saw and wrote.
		{"r1(a) r2(a) w2(a) c2 c1", "1 2", "1a0 2a0", "a2"},
		{"r1(a) r1(b) w3(a) c3 w2(b) c2 r1(a) r1(b) c1", "1 2 3", "1a0 1b0 1a0 1b0", "a3 b2"},
		{"r2(a) c1 c2", "1 2", "2a0", ""},
		// A greater one has seen it from itself.
		{"w2(a) r2(a) w1(a) c1 c2", "1 2", "2a2", "a2"},
		{"w2(a) r2(a) c2 w1(a) c1", "1 2", "2a2", "a2"},
		{"w2(a) r2(a) w1(a) c1", "1", "", "a1"},
		{"w2(a) r2(a) a2 w1(a) c1", "1", "", "a1"},
		// From one of a greater number than this.
		{"w2(a) c2 r3(a) w1(a) c1 c3", "1 2 3", "3a2", "a2"},
		{"w5(a) c5 r6(a) c6 w4(a) c4 w1(a) c1", "1 4 5 6", "6a5", "a5"},
		{"w2(a) c2 r3(a) a3 w1(a) c1", "1 2", "", "a2"},
		// From this one itself: it has committed by then.
		{"w1(a) c1 r2(a) c2", "1 2", "2a1", "a1"},
		// Of another item.
		{"w1(a) r2(b) c1 c2", "1 2", "2b0", "a1"},
		{"w1(a) w1(b) r2(c) r2(d) r3(e) r3(f) c1 c2 c3", "1 2 3", "2c0 2d0 3e0 3f0", "a1 b1"},
		{"w1(b) c1 r3(b) w2(a) c2 c3", "1 2 3", "3b1", "a2 b1"},
		// One of a lesser number has seen it: 0, another one, itself.
		{"r1(a) w2(a) c2 c1", "1 2", "1a0", "a2"},
		{"r1(a) w2(a) c1 c2", "1 2", "1a0", "a2"},
		{"w1(a) r1(a) c1 w2(a) c2", "1 2", "1a1", "a2"},
		{"w1(a) c1 r2(a) w3(a) c3 c2", "1 2 3", "2a1", "a3"},
		{"r5(a) r4(a) w6(a) c6 c4", "4 6", "4a0", "a6"},
		{"r1(a) a1 w2(a) c2", "2", "", "a2"},
		// A greater one only wrote it, or reads it later.
		{"w1(a) w2(a) c1 c2", "1 2", "", "a2"},
		{"w2(a) c2 w1(a) c1", "1 2", "", "a2"},
		{"w1(a) c1 w2(b) r2(a) c2", "1 2", "2a1", "a1 b2"},
		// Writers of one item of which nobody read: all are done, the greatest is last.
		{"w1(a) w2(a) c2 c1", "1 2", "", "a2"},
		{"w3(a) w1(a) w2(a) c3 c1 c2", "1 2 3", "", "a3"},
		{"w1(a) w2(a) w3(a) w4(a) w5(a) w6(a) c6 c1 c5 c2 c4 c3", "1 2 3 4 5 6", "", "a6"},
		// It has seen what was written over since by a greater one, or a lesser one that is hindered.
		{"r2(a) w3(a) c3 w2(b) c2", "2 3", "2a0", "a3 b2"},
		{"r2(a) w1(a) c1 w2(b) c2", "2", "2a0", "b2"},
	})
}

// TestLost: V1: those that are aborted, and those that do not end, are in nothing that is told.
func TestLost(t *testing.T) {
	goes(t, []asked{
		{"w1(a) r1(a) r1(b) a1", "", "", ""},
		{"w6(a) a6 w1(a) c1", "1", "", "a1"},
		{"w6(a) w1(a) c1", "1", "", "a1"},
		{"w1(a) c1 r2(a) w2(a) a2 r3(a) w3(b)", "1", "", "a1"},
		// The greatest that wrote it fell at its Commit.
		{"w1(a) c1 w5(a) w5(b) r6(b) c5 c6", "1 6", "6b0", "a1"},
		// What one would have to see falls: the next one sees what is below it.
		{"w3(a) w2(a) w2(b) r4(b) c2 c4 r5(a) c5 c3", "4 5", "4b0 5a0", ""},
		// None is done.
		{"r1(a) w2(a) r3(a) w3(b)", "", "", ""},
		{"w1(a) r2(a) c1 a2", "", "", ""},
	})
}

// TestOrder: V1: deals by their numbers, though they ended in another order; what each saw, in its own order.
func TestOrder(t *testing.T) {
	goes(t, []asked{
		{"c3 c1 c2", "1 2 3", "", ""},
		{"c6 c5 c4 c3 c2 c1", "1 2 3 4 5 6", "", ""},
		{"c6 a5 c4 c2", "2 4 6", "", ""},
		{"r1(a) r2(a) r3(a) c2 c3 c1", "1 2 3", "1a0 2a0 3a0", ""},
		{"w1(a) w2(b) w3(c) c3 c1 c2", "1 2 3", "", "a1 b2 c3"},
		// Reads by turns: each deal's are together, the last item first.
		{"r2(c) r1(b) r2(b) r1(c) r2(a) r1(a) c2 c1", "1 2", "1b0 1c0 1a0 2c0 2b0 2a0", ""},
		{"r1(a) r1(b) r1(a) r1(a) r1(b) c1", "1", "1a0 1b0 1a0 1a0 1b0", ""},
		// From itself, another one, and nobody.
		{"w1(b) c1 w2(c) r2(c) r2(b) r2(a) r2(c) c2", "1 2", "2c2 2b1 2a0 2c2", "b1 c2"},
		{"w2(a) w2(b) c2 r5(f) r3(b) w3(b) r5(a) r3(b) r3(f) c3 r5(b) c5", "2 3 5", "3b2 3b3 3f0 5f0 5a2 5b3", "a2 b3"},
		// Between them those that are aborted, and one that does not end.
		{"r6(a) r4(b) w3(a) r5(c) r2(d) c6 c3 a5 c4", "4 6", "4b0 6a0", ""},
		// Last: of each item another one, each committed ahead of a lesser one.
		{"w6(a) w5(b) c6 c5 w4(a) w4(b) w4(c) c4 w1(a) w1(b) w1(c) w1(d) c1", "1 4 5 6", "", "a6 b5 c4 d1"},
	})
}

// TestMost: V1 at MaxOps ops: of all deals, of one, of one that is aborted at the last of them, and of one that does not end.
func TestMost(t *testing.T) {
	var all []api.Op
	var want api.Outcome
	for tx := 1; tx <= api.MaxTx; tx++ {
		all = append(all, read(tx, 1), write(tx, tx), read(tx, tx), read(tx, 2), commit(tx))
		first, second := min(tx-1, 1), 0
		if tx >= 2 {
			second = 2
		}
		mine := []api.Seen{{Tx: tx, Item: 1, From: first}, {Tx: tx, Item: tx, From: tx}, {Tx: tx, Item: 2, From: second}}
		want.Done, want.Seen = append(want.Done, tx), append(want.Seen, mine...)
	}
	for len(all) < api.MaxOps {
		all = slices.Insert(all, 0, read(1, api.MaxItem))
		want.Seen = slices.Insert(want.Seen, 0, api.Seen{Tx: 1, Item: api.MaxItem})
	}
	want.Last = []int{1, 2, 3, 4, 5, 6}
	alone := append(slices.Repeat([]api.Op{write(1, 1)}, api.MaxOps-1), commit(1))
	fallen := slices.Concat([]api.Op{read(2, 1), write(1, 1), commit(2)}, slices.Repeat([]api.Op{write(1, 3)}, api.MaxOps-4), []api.Op{commit(1)})
	for _, k := range []struct {
		l    []api.Op
		want api.Outcome
	}{
		{all, want},
		{alone, api.Outcome{Done: []int{1}, Last: []int{1, 0, 0, 0, 0, 0}}},
		{fallen, api.Outcome{Done: []int{2}, Seen: []api.Seen{{Tx: 2, Item: 1}}, Last: make([]int, api.MaxItem)}},
		{slices.Repeat([]api.Op{write(6, 6)}, api.MaxOps), api.Outcome{Last: make([]int, api.MaxItem)}},
	} {
		out, err := versions.Run(k.l)
		if err != nil || len(k.l) != api.MaxOps || !equal(out, k.want) {
			t.Errorf("%q: got %v %v, want %v", text(t, k.l), out, err, k.want)
		}
		byWords(t, k.l)
	}
}

// TestMemory: P2 and P4 of DOC.md.
func TestMemory(t *testing.T) {
	whole := append(ops(t, "w3(a) r1(b) c3 r4(a) w2(b) r2(c) w1(c) c4 c2 c1 r5(b)"), read(0, 0), commit(1), api.Op{Tx: 9, What: 9, Item: 9})
	kept := slices.Clone(whole)
	n := len(whole) - 3
	first, err := versions.Run(whole[:n])
	if err != nil || len(first.Done) < 3 || len(first.Seen) < 2 {
		t.Fatalf("got %v %v", first, err)
	}
	was := clone(first)
	clear(first.Done[:cap(first.Done)])
	if !slices.Equal(first.Seen, was.Seen) || !slices.Equal(first.Last, was.Last) {
		t.Errorf("what was told behind Done is now %v", first)
	}
	clear(first.Seen[:cap(first.Seen)])
	clear(first.Last[:cap(first.Last)])
	if !slices.Equal(whole, kept) {
		t.Fatalf("what was handed in is now %v", whole)
	}
	second, err := versions.Run(whole[:n])
	if err != nil || !equal(second, was) {
		t.Errorf("again: got %v %v, want %v", second, err, was)
	}
	clear(whole)
	if !equal(second, was) {
		t.Errorf("what was told is now %v", second)
	}
}

// causes: how often each thing came to be. A deal is done; it falls by what one has seen that
// is done by then, that asked for its Abort by then, that fell by then, that has not ended by then;
// it is not hindered by what a greater one has seen from itself, from one greater than this, or by
// what a lesser one has seen; it has seen another one's than was committed last; it is done ahead
// of a lesser one; the greatest that wrote an item was not the last that committed it.
type causes struct {
	done, byDone, byAborted, byFallen, byOpen, own, greater, lesser, older, turned, over int
}

func (c *causes) add(d causes) {
	c.done += d.done
	c.byDone += d.byDone
	c.byAborted += d.byAborted
	c.byFallen += d.byFallen
	c.byOpen += d.byOpen
	c.own += d.own
	c.greater += d.greater
	c.lesser += d.lesser
	c.older += d.older
	c.turned += d.turned
	c.over += d.over
}

// least of all.
func (c *causes) least() int {
	return min(c.done, c.byDone, c.byAborted, c.byFallen, c.byOpen, c.own, c.greater, c.lesser, c.older, c.turned, c.over)
}

// notes are right ops, and at which places a deal was done.
type notes struct {
	l    []api.Op
	done []int
}

// wroteAhead tells whether a deal wrote an item ahead of a place.
func (n notes) wroteAhead(tx, item, at int) bool {
	return slices.Contains(n.l[:at], write(tx, item))
}

// from whom the Read at a place reads.
func (n notes) from(at int) int {
	o := n.l[at]
	if n.wroteAhead(o.Tx, o.Item, at) {
		return o.Tx
	}
	greatest := 0
	for _, end := range n.done {
		tx := n.l[end].Tx
		if end < at && tx < o.Tx && n.wroteAhead(tx, o.Item, end) {
			greatest = max(greatest, tx)
		}
	}
	return greatest
}

// count what became of a deal by a place, for which another one falls.
func (n notes) count(tx, at int, c *causes) {
	switch end := slices.Index(n.l[:at], commit(tx)); {
	case slices.Contains(n.l[:at], abort(tx)):
		c.byAborted++
	case end < 0:
		c.byOpen++
	case slices.Contains(n.done, end):
		c.byDone++
	default:
		c.byFallen++
	}
}

// fall: whether a deal is aborted at this place, which is its Commit; and what came to be by the way.
func (n notes) fall(at int, c *causes) bool {
	tx, falls := n.l[at].Tx, false
	for place, o := range n.l[:at] {
		if o.What != api.Read || !n.wroteAhead(tx, o.Item, at) {
			continue
		}
		switch from := n.from(place); {
		case o.Tx == tx:
		case o.Tx < tx:
			c.lesser++
		case from == o.Tx:
			c.own++
		case from > tx:
			c.greater++
		default:
			n.count(o.Tx, at, c)
			falls = true
		}
	}
	return falls
}

// run of right ops, as the promise's words have it: all is read off what was asked, and where deals were done.
func run(l []api.Op) (n notes, c causes) {
	n.l = l
	for at, o := range l {
		if o.What == api.Commit && !n.fall(at, &c) {
			n.done = append(n.done, at)
		}
	}
	return n, c
}

// outcome of those that are done, one number after the other.
func (n notes) outcome() (out api.Outcome) {
	out.Last = make([]int, api.MaxItem)
	for tx := 1; tx <= api.MaxTx; tx++ {
		end := slices.Index(n.l, commit(tx))
		if !slices.Contains(n.done, end) {
			continue
		}
		out.Done = append(out.Done, tx)
		for at, o := range n.l[:end] {
			switch {
			case o.Tx != tx:
			case o.What == api.Read:
				out.Seen = append(out.Seen, api.Seen{Tx: tx, Item: o.Item, From: n.from(at)})
			default:
				out.Last[o.Item-1] = tx
			}
		}
	}
	return out
}

// lastAhead: who of those that are done committed an item last, ahead of a place.
func (n notes) lastAhead(item, at int) int {
	last := 0
	for _, end := range n.done {
		if end < at && n.wroteAhead(n.l[end].Tx, item, end) {
			last = n.l[end].Tx
		}
	}
	return last
}

// look at what else came to be.
func (n notes) look(c *causes, out api.Outcome) {
	c.done = len(n.done)
	for at, o := range n.l {
		if o.What == api.Read && n.from(at) != o.Tx && n.from(at) != n.lastAhead(o.Item, at) {
			c.older++
		}
	}
	for i, end := range n.done {
		if i > 0 && n.l[end].Tx < n.l[n.done[i-1]].Tx {
			c.turned++
		}
	}
	for at, tx := range out.Last {
		if tx != n.lastAhead(at+1, len(n.l)) {
			c.over++
		}
	}
}

// byWords holds what comes of right ops against the promise's words, and against what is to be true of the whole.
func byWords(t *testing.T, l []api.Op) causes {
	t.Helper()
	out, err := versions.Run(l)
	n, c := run(l)
	if want := n.outcome(); err != nil || !equal(out, want) {
		t.Fatalf("%q: got %v %v, want %v", text(t, l), out, err, want)
	}
	asByNumber(t, l, out)
	n.look(&c, out)
	return c
}

// asByNumber: what comes of ops is as if just those that are done had come, one behind the other, by their numbers.
func asByNumber(t *testing.T, l []api.Op, out api.Outcome) {
	t.Helper()
	just := slices.DeleteFunc(slices.Clone(l), func(o api.Op) bool { return !slices.Contains(out.Done, o.Tx) })
	laid, err := serial.Serial(just, out.Done)
	if err != nil {
		t.Fatalf("%q by %v: %v", text(t, just), out.Done, err)
	}
	last, _ := view.Last(laid)
	if !slices.Equal(last, out.Last) || !slices.Equal(reads(laid), out.Seen) {
		t.Fatalf("%q: got %v, which is not as %q", text(t, l), out, text(t, laid))
	}
	for _, again := range [][]api.Op{just, laid} {
		if g, err := versions.Run(again); err != nil || !equal(g, out) {
			t.Fatalf("%q: got %v, but of %q %v %v", text(t, l), out, text(t, again), g, err)
		}
	}
}

// reads of a history in which all commit: who reads what from whom.
func reads(h []api.Op) []api.Seen {
	var seen []api.Seen
	from, _ := view.Reads(h)
	for _, s := range from {
		seen = append(seen, api.Seen{Tx: h[s.At].Tx, Item: h[s.At].Item, From: s.From})
	}
	return seen
}

// over tells whether a deal ends.
func over(l []api.Op, tx int) bool {
	return slices.Contains(l, commit(tx)) || slices.Contains(l, abort(tx))
}

// grow goes over all ops of at most n, each of which is one of these, and whose deals are done with an end.
func grow(n int, some []api.Op, see func(l []api.Op)) {
	var l []api.Op
	var more func()
	more = func() {
		see(l)
		if len(l) == n {
			return
		}
		for _, o := range some {
			if !over(l, o.Tx) {
				l = append(l, o)
				more()
				l = l[:len(l)-1]
			}
		}
	}
	more()
}

// TestSmall: V1: all ops of few deals on few items, as they are, and where all commit at last, by both orders.
func TestSmall(t *testing.T) {
	for _, k := range []struct{ deals, items, n int }{{2, 1, 4}, {2, 2, 4}, {3, 1, 4}, {3, 2, 3}} {
		var some []api.Op
		for tx := 1; tx <= k.deals; tx++ {
			for item := 1; item <= k.items; item++ {
				some = append(some, read(tx, item), write(tx, item))
			}
			some = append(some, commit(tx), abort(tx))
		}
		grow(k.n, some, func(l []api.Op) {
			up, down := slices.Clone(l), slices.Clone(l)
			for tx := 1; tx <= k.deals; tx++ {
				if !over(l, tx) {
					up = append(up, commit(tx))
					down = slices.Insert(down, len(l), commit(tx))
				}
			}
			byWords(t, l)
			byWords(t, up)
			byWords(t, down)
		})
	}
}

// roller gives numbers below n, by a rule that mixes them.
func roller() func(n int) int {
	mixed := uint64(1)
	return func(n int) int {
		mixed = mixed*6364136223846793005 + 1442695040888963407
		return int(mixed>>33) % n
	}
}

// mixed ops of two to six deals on up to six items: each deal asks for some, and then mostly to end, by turns.
func mixed(roll func(int) int) []api.Op {
	deals, items := roll(api.MaxTx-1)+2, roll(api.MaxItem)+1
	var left [][]api.Op
	for tx := 1; tx <= deals; tx++ {
		var some []api.Op
		for range roll(api.MaxOps / deals) {
			some = append(some, api.Op{Tx: tx, What: roll(2) + 1, Item: roll(items) + 1})
		}
		if end := roll(9); end > 0 {
			some = append(some, api.Op{Tx: tx, What: api.Commit + end/8})
		}
		left = append(left, some)
	}
	var l []api.Op
	for len(left) > 0 {
		at := roll(len(left))
		if len(left[at]) == 0 {
			left = slices.Delete(left, at, at+1)
			continue
		}
		l = append(l, left[at][0])
		left[at] = left[at][1:]
	}
	return l
}

// TestGreat: V1: many ops, mixed.
func TestGreat(t *testing.T) {
	roll := roller()
	var sum causes
	for range 20_000 {
		sum.add(byWords(t, mixed(roll)))
	}
	if sum.least() < 500 {
		t.Errorf("%+v: too few to tell", sum)
	}
}
