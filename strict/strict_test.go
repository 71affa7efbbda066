package strict_test

import (
	"math"
	"slices"
	"strconv"
	"strings"
	"testing"

	"locklane/api"
	"locklane/faces"
	"locklane/history"
	"locklane/plain"
	"locklane/serial"
	"locklane/strict"
)

func read(tx, item int) api.Op  { return api.Op{Tx: tx, What: api.Read, Item: item} }
func write(tx, item int) api.Op { return api.Op{Tx: tx, What: api.Write, Item: item} }
func commit(tx int) api.Op      { return api.Op{Tx: tx, What: api.Commit} }
func abort(tx int) api.Op       { return api.Op{Tx: tx, What: api.Abort} }

// ways, all of them.
func ways() []int { return []int{api.Detect, api.WaitDie, api.WoundWait} }

// ops of a text that is right.
func ops(t *testing.T, text string) []api.Op {
	t.Helper()
	h, err := history.Parse(text)
	if err != nil {
		t.Fatalf("%q: %v", text, err)
	}
	return h
}

// text of ops, as history.Print has it, of however many.
func text(h []api.Op) string {
	var w []string
	for _, o := range h {
		s := string("?rwca"[o.What]) + strconv.Itoa(o.Tx)
		if o.Item > 0 {
			s += "(" + string(rune('a'+o.Item-1)) + ")"
		}
		w = append(w, s)
	}
	return strings.Join(w, " ")
}

func numbers(l []int) string {
	var w []string
	for _, n := range l {
		w = append(w, strconv.Itoa(n))
	}
	return strings.Join(w, ",")
}

// asked is what deals ask for, and what comes of it; of no text: just what was asked.
type asked struct{ ops, told, aborted string }

// goes holds what comes of ops by a way against what should, and against the promises' words.
func goes(t *testing.T, way int, all []asked) {
	t.Helper()
	for _, k := range all {
		l := ops(t, k.ops)
		if k.told == "" {
			k.told = k.ops
		}
		h, aborted, err := strict.Run(l, way)
		if err != nil || text(h) != k.told || numbers(aborted) != k.aborted {
			t.Errorf("way %d, %q: got %q %v %v, want %q %s", way, k.ops, text(h), aborted, err, k.told, k.aborted)
		}
		byWords(t, l, way)
	}
}

// rich is n ops of which some wait, and some are aborted, by any way.
func rich(n int) []api.Op {
	l := []api.Op{write(1, 1), write(2, 2), write(1, 2), write(2, 1), commit(1)}
	for len(l) < n {
		l = append(l, read(3, 1))
	}
	return l[:n]
}

// with is rich, and these ops behind it.
func with(more ...api.Op) []api.Op { return append(rich(5), more...) }

// but is rich, of n ops, of which one is another op.
func but(n, at int, o api.Op) []api.Op {
	l := rich(n)
	l[at] = o
	return l
}

// TestWrong: S1: Check's error is told first, with any way, and nothing with it.
func TestWrong(t *testing.T) {
	for _, k := range []struct {
		name string
		l    []api.Op
		err  api.Errno
	}{
		{"one more than MaxOps", rich(api.MaxOps + 1), api.ErrFull},
		{"far more", rich(1000), api.ErrFull},
		{"too many, and one of no deal", but(api.MaxOps+1, 0, read(0, 1)), api.ErrFull},
		{"too many, and one behind its commit", but(api.MaxOps+1, api.MaxOps, read(1, 1)), api.ErrFull},
		{"first of MaxOps", but(api.MaxOps, 0, read(7, 1)), api.ErrRange},
		{"last of MaxOps", but(api.MaxOps, api.MaxOps-1, read(1, 0)), api.ErrRange},
		{"alone, of no deal", []api.Op{commit(0)}, api.ErrRange},
		{"deal 0", with(read(0, 1)), api.ErrRange},
		{"deal below 0", with(read(-1, 1)), api.ErrRange},
		{"deal beyond", with(commit(api.MaxTx + 1)), api.ErrRange},
		{"abort of a deal beyond", with(abort(api.MaxTx + 1)), api.ErrRange},
		{"greatest deal", with(commit(math.MaxInt)), api.ErrRange},
		{"least deal", with(commit(math.MinInt)), api.ErrRange},
		{"what 0", with(api.Op{Tx: 3, Item: 1}), api.ErrRange},
		{"what below 0", with(api.Op{Tx: 3, What: -1, Item: 1}), api.ErrRange},
		{"what beyond", with(api.Op{Tx: 3, What: api.Abort + 1}), api.ErrRange},
		{"item 0", with(read(3, 0)), api.ErrRange},
		{"item below 0", with(write(3, -1)), api.ErrRange},
		{"item beyond", with(write(3, api.MaxItem+1)), api.ErrRange},
		{"greatest item", with(read(3, math.MaxInt)), api.ErrRange},
		{"least item", with(write(3, math.MinInt)), api.ErrRange},
		{"commit of an item", with(api.Op{Tx: 3, What: api.Commit, Item: 1}), api.ErrRange},
		{"abort of an item", with(api.Op{Tx: 3, What: api.Abort, Item: 1}), api.ErrRange},
		{"behind its commit", with(read(1, 1)), api.ErrState},
		{"behind its abort", with(abort(3), read(3, 1)), api.ErrState},
		{"commit twice", with(commit(1)), api.ErrState},
		{"abort, then commit", with(abort(3), commit(3)), api.ErrState},
		{"of one that is aborted by the way", with(commit(2), commit(2)), api.ErrState},
		{"alone, commit twice", []api.Op{commit(1), commit(1)}, api.ErrState},
		{"range, then state", with(read(0, 1), read(1, 1)), api.ErrRange},
		{"state, then range", with(read(1, 1), read(0, 1)), api.ErrState},
	} {
		for _, way := range append(ways(), wrongWays()...) {
			if h, aborted, err := strict.Run(k.l, way); plain.Told(err) != k.err || len(h) > 0 || len(aborted) > 0 {
				t.Errorf("%s, way %d: got %v %v %v, want %v", k.name, way, h, aborted, err, k.err)
			}
		}
	}
}

// wrongWays: none of them is one.
func wrongWays() []int {
	return []int{api.Detect - 1, api.WoundWait + 1, 10, -256, 256, math.MinInt, math.MaxInt}
}

// TestWrongWay: S1: of ops that are right, however many.
func TestWrongWay(t *testing.T) {
	for _, way := range wrongWays() {
		for _, l := range [][]api.Op{nil, {}, rich(1), rich(5), rich(api.MaxOps)} {
			if h, aborted, err := strict.Run(l, way); plain.Told(err) != api.ErrRange || len(h) > 0 || len(aborted) > 0 {
				t.Errorf("%v, way %d: got %v %v %v", l, way, h, aborted, err)
			}
		}
	}
}

// TestInPeace: S1: where nobody waits, all is told as it was asked, by each way.
func TestInPeace(t *testing.T) {
	for _, way := range ways() {
		goes(t, way, []asked{
			{"", "", ""},
			{"c1", "", ""},
			{"c6 a5 c4", "", ""},
			{"r1(a)", "", ""},
			{"w6(f)", "", ""},
			// One behind the other, rising and falling, whether they commit or abort.
			{"w1(a) r1(b) c1 r2(a) w2(b) c2 w3(b) r3(a) c3", "", ""},
			{"w3(a) r3(b) c3 r2(a) w2(b) c2 w1(b) r1(a) c1", "", ""},
			{"w1(a) a1 w2(a) a2 r3(a) a3", "", ""},
			{"w2(a) a2 w1(a) c1 r6(a) w6(a) a6 w5(a)", "", ""},
			// Shared beside Shared.
			{"r1(a) r2(a) c1 c2", "", ""},
			{"r2(a) r1(a) c1 c2", "", ""},
			{"r6(a) r1(a) r3(a) r1(a) r6(a) c1 c3 c6", "", ""},
			// Unlike items.
			{"w1(a) w2(b) w3(c) w4(d) w5(e) w6(f) c6 c5 c4 c3 c2 c1", "", ""},
			{"w1(a) r2(b) r1(c) w2(d) a2 c1", "", ""},
			// A Read and a Write of one deal on one item, in both orders, and again.
			{"r1(a) w1(a) c1", "", ""},
			{"w1(a) r1(a) c1", "", ""},
			{"r1(a) r1(a) w1(a) w1(a) r1(a) w1(a) c1", "", ""},
			{"w1(a) w1(a) r1(a) r1(a) w1(a) r1(a) a1", "", ""},
			// Till its deal ends, and no longer; by Shared locks that others let go it is alone.
			{"r1(a) r2(a) c2 w1(a) c1", "", ""},
			{"r1(a) r2(a) a1 w2(a) c2", "", ""},
		})
	}
}

// TestDetect: S1 and S2.
func TestDetect(t *testing.T) {
	goes(t, api.Detect, []asked{
		// Shared beside Alone, Alone beside Shared, Alone beside Alone, of a greater and a lesser deal.
		{"r1(a) w2(a) c1 c2", "r1(a) c1 w2(a) c2", ""},
		{"r2(a) w1(a) c2 c1", "r2(a) c2 w1(a) c1", ""},
		{"w1(a) r2(a) c1 c2", "w1(a) c1 r2(a) c2", ""},
		{"w2(a) r1(a) c2 c1", "w2(a) c2 r1(a) c1", ""},
		{"w1(a) w2(a) c1 c2", "w1(a) c1 w2(a) c2", ""},
		{"w2(a) w1(a) c2 c1", "w2(a) c2 w1(a) c1", ""},
		// A Read and a Write of one deal: it is Alone, in both orders.
		{"r1(a) w1(a) r2(a) c1 c2", "r1(a) w1(a) c1 r2(a) c2", ""},
		{"w1(a) r1(a) r2(a) c1 c2", "w1(a) r1(a) c1 r2(a) c2", ""},
		{"r1(a) r2(a) w1(a) c2 c1", "r1(a) r2(a) c2 w1(a) c1", ""},
		// Who Holds it goes on, though others wait; who comes new waits behind them.
		{"r1(a) w2(a) r1(a) r3(a) c1 c2 c3", "r1(a) r1(a) c1 w2(a) c2 r3(a) c3", ""},
		{"w1(a) w2(a) w1(a) r1(a) c1 c2", "w1(a) w1(a) r1(a) c1 w2(a) c2", ""},
		// What stands behind: a Read, a Write, a Commit, an Abort; several.
		{"w1(a) r2(a) r2(b) c1", "w1(a) c1 r2(a) r2(b)", ""},
		{"w1(a) r2(a) w2(b) c1", "w1(a) c1 r2(a) w2(b)", ""},
		{"w1(a) r2(a) c2 c1", "w1(a) c1 r2(a) c2", ""},
		{"w1(a) r2(a) a2 c1", "w1(a) c1 r2(a) a2", ""},
		{"w1(a) w2(a) r2(c) w2(b) r2(a) w2(a) c2 c1", "w1(a) c1 w2(a) r2(c) w2(b) r2(a) w2(a) c2", ""},
		// It is not asked yet: another one may have it.
		{"w1(a) r2(a) w2(b) w3(b) c3 c1 c2", "w1(a) w3(b) c3 c1 r2(a) w2(b) c2", ""},
		{"w1(a) r2(a) w2(b) r3(b) w3(a) c1 c2 c3", "w1(a) r3(b) c1 r2(a) a2 w3(a) c3", "2"},
		// By a Commit and an Abort come to be Held: one, several, none.
		{"w1(a) w2(a) w3(a) a1 a2 a3", "w1(a) a1 w2(a) a2 w3(a) a3", ""},
		{"w1(a) r3(a) r2(a) c1 c2 c3", "w1(a) c1 r3(a) r2(a) c2 c3", ""},
		{"w1(a) r3(a) r2(a) a1 c2 c3", "w1(a) a1 r3(a) r2(a) c2 c3", ""},
		{"w1(a) w1(b) w6(b) w2(a) c1 c2 c6", "w1(a) w1(b) c1 w6(b) w2(a) c2 c6", ""},
		{"r1(a) r2(a) w3(a) c1 c3 c2", "r1(a) r2(a) c1 c2 w3(a) c3", ""},
		{"r1(a) r2(a) w3(a) a2 c3 a1", "r1(a) r2(a) a2 a1 w3(a) c3", ""},
		{"w1(a) w2(a) w3(b) c3 c1", "w1(a) w3(b) c3 c1 w2(a)", ""},
		// One by one: what stands behind the first is done ahead of the second, and what is Held by that too.
		{"w1(a) r3(a) c3 r2(a) c2 c1", "w1(a) c1 r3(a) c3 r2(a) c2", ""},
		{"w1(a) w2(b) r2(a) c2 r3(a) w4(b) c1 c3 c4", "w1(a) w2(b) c1 r2(a) c2 w4(b) r3(a) c3 c4", ""},
		{"w1(a) w2(b) w3(c) r2(a) a2 w4(b) c4 r3(a) c3 w5(c) c5 c1", "w1(a) w2(b) w3(c) c1 r2(a) a2 w4(b) c4 r3(a) c3 w5(c) c5", ""},
		// Till it Waits again, or is aborted.
		{"w1(a) w3(b) r2(a) r2(c) w2(b) r2(d) c2 c1 c3", "w1(a) w3(b) c1 r2(a) r2(c) c3 w2(b) r2(d) c2", ""},
		{"w1(a) w3(b) r2(a) w2(b) c2 c1", "w1(a) w3(b) c1 r2(a)", ""},
		{"w3(a) w1(b) w2(c) r2(a) w1(c) r2(d) w2(b) r2(e) c2 c3 c1", "w3(a) w1(b) w2(c) c3 r2(a) r2(d) a2 w1(c) c1", "2"},
		// It Waits at last.
		{"w1(a) r2(a)", "w1(a)", ""},
		{"w1(a) r2(a) w2(b) c2", "w1(a)", ""},
		{"w1(a) w2(b) w3(a) w4(b) c2", "w1(a) w2(b) c2 w4(b)", ""},
	})
}

// TestRing: S1: Detect, who waits for itself.
func TestRing(t *testing.T) {
	goes(t, api.Detect, []asked{
		// Two that wait for each other: who closes the ring is aborted, of whatever number.
		{"w1(a) w2(b) w1(b) w2(a) c1 c2", "w1(a) w2(b) a2 w1(b) c1", "2"},
		{"w1(a) w2(b) w2(a) w1(b) c1 c2", "w1(a) w2(b) a1 w2(a) c2", "1"},
		{"r1(a) r2(b) w1(b) w2(a) c1 c2", "r1(a) r2(b) a2 w1(b) c1", "2"},
		{"w1(a) w2(b) r1(b) r2(a) c1 c2", "w1(a) w2(b) a2 r1(b) c1", "2"},
		// Both Hold it Shared, and want it Alone.
		{"r1(a) r2(a) w1(a) w2(a) c1 c2", "r1(a) r2(a) a2 w1(a) c1", "2"},
		{"r1(a) r2(a) w2(a) w1(a) c1 c2", "r1(a) r2(a) a1 w2(a) c2", "1"},
		// It waits for one that only waits ahead of it.
		{"r1(a) w2(a) w1(a) c1 c2", "r1(a) a1 w2(a) c2", "1"},
		{"r1(a) w2(b) w3(a) r2(a) w1(b) c3 c2", "r1(a) w2(b) a1 w3(a) c3 r2(a) c2", "1"},
		// Three in a ring, and six.
		{"w1(a) w2(b) w3(c) w1(b) w2(c) w3(a) c1 c2 c3", "w1(a) w2(b) w3(c) a3 w2(c) c2 w1(b) c1", "3"},
		{"w1(a) w2(b) w3(c) w3(a) w1(b) w2(c) c1 c2 c3", "w1(a) w2(b) w3(c) a2 w1(b) c1 w3(a) c3", "2"},
		{
			"w1(a) w2(b) w3(c) w4(d) w5(e) w6(f) w1(b) w2(c) w3(d) w4(e) w5(f) w6(a) c1 c2 c3 c4 c5 c6",
			"w1(a) w2(b) w3(c) w4(d) w5(e) w6(f) a6 w5(f) c5 w4(e) c4 w3(d) c3 w2(c) c2 w1(b) c1", "6",
		},
		// Nearly a ring: a chain.
		{"w1(a) w2(b) w3(c) w1(b) w2(c) c1 c2 c3", "w1(a) w2(b) w3(c) c3 w2(c) c2 w1(b) c1", ""},
		{"w1(a) w2(b) w3(c) w2(c) w1(b) c1 c2 c3", "w1(a) w2(b) w3(c) c3 w2(c) c2 w1(b) c1", ""},
		// One waits for a ring that it is not in: it stays.
		{"w1(a) w2(b) w3(a) w1(b) w2(a) c1 c2 c3", "w1(a) w2(b) a2 w1(b) c1 w3(a) c3", "2"},
		{"w1(a) w2(b) w3(b) w1(b) w2(a) c1 c2 c3", "w1(a) w2(b) a2 w3(b) c3 w1(b) c1", "2"},
		{"w1(a) w2(b) w1(b) w3(a) w2(a) c2 c1 c3", "w1(a) w2(b) a2 w1(b) c1 w3(a) c3", "2"},
		// It waits for two, of which one waits for it: the greater, the lesser.
		{"r1(a) r2(a) w3(b) r2(b) w3(a) c1 c2 c3", "r1(a) r2(a) w3(b) a3 r2(b) c1 c2", "3"},
		{"r1(a) r2(a) w3(b) r1(b) w3(a) c1 c2 c3", "r1(a) r2(a) w3(b) a3 r1(b) c1 c2", "3"},
		{"r1(a) r2(a) w3(b) w4(c) r2(c) w4(b) w3(a) c1 c2 c4", "r1(a) r2(a) w3(b) w4(c) a3 w4(b) c1 c4 r2(c) c2", "3"},
		// It waits for two, of which none does.
		{"r1(a) r2(a) w3(a) c2 c1 c3", "r1(a) r2(a) c2 c1 w3(a) c3", ""},
		// One is aborted behind the other, each once; what they ask later is left out.
		{"w1(a) w2(b) w3(c) w1(b) w2(a) r2(e) w3(a) w1(c) w2(d) c1 c2 c3", "w1(a) w2(b) w3(c) a2 w1(b) a1 w3(a) c3", "2,1"},
		{"w1(a) w2(b) w1(b) w2(a) a2 c1", "w1(a) w2(b) a2 w1(b) c1", "2"},
		// Who asks for an Abort was not aborted.
		{"w1(a) w2(a) a1 a2", "w1(a) a1 w2(a) a2", ""},
	})
}

// TestWaitDie: S1 and S2.
func TestWaitDie(t *testing.T) {
	goes(t, api.WaitDie, []asked{
		// One for which it waits is older: Shared beside Alone, Alone beside Shared, Alone beside Alone.
		{"r1(a) w2(a) c1 c2", "r1(a) a2 c1", "2"},
		{"w1(a) r2(a) c1 c2", "w1(a) a2 c1", "2"},
		{"w1(a) w2(a) c1 c2", "w1(a) a2 c1", "2"},
		{"w5(f) w6(f) c5", "w5(f) a6 c5", "6"},
		// Younger: it waits.
		{"r2(a) w1(a) c2 c1", "r2(a) c2 w1(a) c1", ""},
		{"w2(a) r1(a) c2 c1", "w2(a) c2 r1(a) c1", ""},
		{"w2(a) w1(a) c2 c1", "w2(a) c2 w1(a) c1", ""},
		{"r3(a) r2(a) w1(a) c3 c2 c1", "r3(a) r2(a) c3 c2 w1(a) c1", ""},
		// Both, whichever came first.
		{"r1(a) r3(a) w2(a) c1 c3", "r1(a) r3(a) a2 c1 c3", "2"},
		{"r3(a) r1(a) w2(a) c1 c3", "r3(a) r1(a) a2 c1 c3", "2"},
		// One that only waits ahead of it counts too.
		{"w3(a) w2(a) w1(a) c3 c2 c1", "w3(a) c3 w2(a) c2 w1(a) c1", ""},
		{"w3(a) w1(a) w2(a) c3 c2 c1", "w3(a) a2 c3 w1(a) c1", "2"},
		{"r2(a) w1(a) r3(a) c1 c2", "r2(a) a3 c2 w1(a) c1", "3"},
		// It Holds it Shared, beside an older one, and a younger one.
		{"r1(a) r2(a) w2(a) c1", "r1(a) r2(a) a2 c1", "2"},
		{"r1(a) r2(a) w1(a) c2 c1", "r1(a) r2(a) c2 w1(a) c1", ""},
		{"r1(a) r2(a) w1(a) w2(a) c1 c2", "r1(a) r2(a) a2 w1(a) c1", "2"},
		// It may be aborted where no ring would be, and no ring can be.
		{"w1(a) w2(b) w1(b) w2(a) c1 c2", "w1(a) w2(b) a2 w1(b) c1", "2"},
		{"w1(a) w2(b) w2(a) w1(b) c1 c2", "w1(a) w2(b) a2 w1(b) c1", "2"},
		// Who is aborted Holds nothing; what it asks later is left out; others come to be Held by it.
		{"r1(a) w2(b) w2(a) r2(c) w3(b) w2(b) c2 c3 c1", "r1(a) w2(b) a2 w3(b) c3 c1", "2"},
		{"w1(a) w3(b) w2(b) c2 w3(a) c3 c1", "w1(a) w3(b) a3 w2(b) c2 c1", "3"},
		{"w1(a) w4(b) r3(b) r2(b) c2 w4(a) c3 c1", "w1(a) w4(b) a4 r3(b) r2(b) c2 c3 c1", "4"},
		{"w1(a) w2(a) w3(a) a2 a3 c1", "w1(a) a2 a3 c1", "2,3"},
		{"w1(a) w3(a) w2(a) a2 a3 c1", "w1(a) a3 a2 c1", "3,2"},
		// What stands behind is done till it is aborted, or Waits again.
		{"w3(a) w1(b) r2(a) r2(c) w2(b) r2(d) c2 c3 c1", "w3(a) w1(b) c3 r2(a) r2(c) a2 c1", "2"},
		{"w3(a) w4(b) r2(a) r2(c) w2(b) r2(d) c2 c3 c4", "w3(a) w4(b) c3 r2(a) r2(c) c4 w2(b) r2(d) c2", ""},
		// The second that is Held comes first to what the first one asks behind: the first is aborted, if it is younger.
		{"w6(a) w6(b) w4(b) c4 w5(a) w5(b) c5 c6", "w6(a) w6(b) c6 w4(b) c4 w5(a) w5(b) c5", ""},
		{"w6(a) w6(b) w5(a) w5(b) c5 w4(b) c4 c6", "w6(a) w6(b) c6 w5(a) a5 w4(b) c4", "5"},
		{"w6(a) w6(b) w4(a) w4(b) c4 w5(b) c5 c6", "w6(a) w6(b) c6 w4(a) w5(b) c5 w4(b) c4", ""},
		// It Waits at last.
		{"w2(a) r1(a) c1", "w2(a)", ""},
	})
}

// TestWoundWait: S1 and S2.
func TestWoundWait(t *testing.T) {
	goes(t, api.WoundWait, []asked{
		// One for which it waits is younger: Shared beside Alone, Alone beside Shared, Alone beside Alone.
		{"r2(a) w1(a) c2 c1", "r2(a) a2 w1(a) c1", "2"},
		{"w2(a) r1(a) c2 c1", "w2(a) a2 r1(a) c1", "2"},
		{"w2(a) w1(a) c2 c1", "w2(a) a2 w1(a) c1", "2"},
		{"w6(f) w5(f) c5", "w6(f) a6 w5(f) c5", "6"},
		// Older: it waits.
		{"r1(a) w2(a) c1 c2", "r1(a) c1 w2(a) c2", ""},
		{"w1(a) r2(a) c1 c2", "w1(a) c1 r2(a) c2", ""},
		{"w1(a) w2(a) c1 c2", "w1(a) c1 w2(a) c2", ""},
		{"r1(a) r2(a) w3(a) c1 c2 c3", "r1(a) r2(a) c1 c2 w3(a) c3", ""},
		// Several younger ones, the least first, in whatever order they came.
		{"r3(a) r4(a) r2(a) w1(a) c1", "r3(a) r4(a) r2(a) a2 a3 a4 w1(a) c1", "2,3,4"},
		{"r6(a) r5(a) r4(a) r3(a) r2(a) w1(a) c6", "r6(a) r5(a) r4(a) r3(a) r2(a) a2 a3 a4 a5 a6 w1(a)", "2,3,4,5,6"},
		// Younger and older: it waits for the older then.
		{"r1(a) r4(a) r3(a) w2(a) c1 c2", "r1(a) r4(a) r3(a) a3 a4 c1 w2(a) c2", "3,4"},
		// One that only waits ahead of it counts too: it waits no more.
		{"w1(a) w3(a) w2(a) c1 c2 c3", "w1(a) a3 c1 w2(a) c2", "3"},
		{"w1(a) w2(a) w3(a) c1 c2 c3", "w1(a) c1 w2(a) c2 w3(a) c3", ""},
		{"r1(a) w2(a) w1(a) c1 c2", "r1(a) a2 w1(a) c1", "2"},
		{"r1(a) w3(a) r2(a) c1 c2", "r1(a) a3 r2(a) c1 c2", "3"},
		// It Holds it Shared, beside a younger one, and an older one.
		{"r1(a) r2(a) w1(a) c1", "r1(a) r2(a) a2 w1(a) c1", "2"},
		{"r1(a) r2(a) w2(a) c1 c2", "r1(a) r2(a) c1 w2(a) c2", ""},
		{"r1(a) r2(a) w2(a) w1(a) c1 c2", "r1(a) r2(a) a2 w1(a) c1", "2"},
		// It is Held after the first of them is aborted, as the second ends by that: by a Commit, an Abort.
		{"r2(a) w3(a) c3 w1(a) c1", "r2(a) a2 w3(a) c3 w1(a) c1", "2"},
		{"r2(a) w3(a) r3(b) a3 w1(a) c1", "r2(a) a2 w3(a) r3(b) a3 w1(a) c1", "2"},
		// The second is Held by that, and aborted then.
		{"r2(a) w3(a) w1(a) c3 c1", "r2(a) a2 w3(a) a3 w1(a) c1", "2,3"},
		{"r2(a) w3(a) r3(b) w1(a) c3 c1", "r2(a) a2 w3(a) r3(b) a3 w1(a) c1", "2,3"},
		// The second waits for the first elsewhere, and is aborted behind it.
		{"w2(b) r2(a) r3(a) r3(b) w1(a) c1", "w2(b) r2(a) r3(a) a2 r3(b) a3 w1(a) c1", "2,3"},
		// Who is aborted had told all of its ops, or has more of them later, or behind.
		{"w1(b) r2(a) r2(c) w1(a) c1", "w1(b) r2(a) r2(c) a2 w1(a) c1", "2"},
		{"r2(a) w1(a) r2(b) w2(a) c2 c1", "r2(a) a2 w1(a) c1", "2"},
		{"r2(a) w1(a) a2 c1", "r2(a) a2 w1(a) c1", "2"},
		{"w1(b) r2(a) w2(b) r2(c) c2 w1(a) c1", "w1(b) r2(a) a2 w1(a) c1", "2"},
		// It Holds nothing: others come to be Held by it too, as they came.
		{"w2(a) w2(b) r3(a) r4(b) c4 w1(a) c1 c3", "w2(a) w2(b) a2 r3(a) r4(b) c4 a3 w1(a) c1", "2,3"},
		{"w2(a) w2(b) w3(b) c3 r4(b) c4 w1(a) c1", "w2(a) w2(b) a2 w3(b) c3 r4(b) c4 w1(a) c1", "2"},
		{"w3(a) w2(a) w3(b) w1(a) w2(b) c1 c2 c3", "w3(a) a3 w2(a) a2 w1(a) c1", "3,2"},
		// One comes to be Held, and is aborted ahead of its turn, whether something stands behind or not.
		{"w1(a) w1(b) w2(a) w3(b) w2(b) c1 c2 c3", "w1(a) w1(b) c1 w2(a) a3 w2(b) c2", "3"},
		{"w1(a) w1(b) w2(a) w3(b) r3(c) c3 w2(b) c2 c1", "w1(a) w1(b) c1 w2(a) a3 w2(b) c2", "3"},
		{"w1(a) w1(b) w1(c) w2(a) w3(b) w4(c) c4 w2(b) c1 c2", "w1(a) w1(b) w1(c) c1 w2(a) a3 w2(b) w4(c) c4 c2", "3"},
		// Its turn is first: it is not.
		{"w1(a) w1(b) w3(b) c3 w2(a) w2(b) c1 c2", "w1(a) w1(b) c1 w3(b) c3 w2(a) w2(b) c2", ""},
		// What stands behind is done till it Waits again, while the first lock's item is waited for by a younger one: that stays.
		{
			"w1(a) w2(d) w4(b) w4(e) w6(e) w6(b) w3(a) w3(b) w3(d) c3 c6 c1 c2 c4",
			"w1(a) w2(d) w4(b) w4(e) c1 w3(a) a4 w6(e) w3(b) c2 w3(d) c3 w6(b) c6", "4",
		},
		// Who comes to be Held by its own wounding goes on in its turn: behind one that waited ahead of it, ahead of one behind it.
		{"w1(a) w3(b) w3(c) w4(c) w2(a) w2(b) r2(d) c2 c1", "w1(a) w3(b) w3(c) c1 w2(a) a3 w4(c) w2(b) r2(d) c2", "3"},
		{
			"w1(a) r3(b) r4(b) w3(e) w4(c) w6(e) w6(c) c6 w2(a) w2(b) r2(d) c2 c1",
			"w1(a) r3(b) r4(b) w3(e) w4(c) c1 w2(a) a3 w6(e) a4 w2(b) r2(d) c2 w6(c) c6", "3,4",
		},
		// It Waits at last.
		{"w1(a) r2(a) c2", "w1(a)", ""},
	})
}

// TestMost: S1 and S2 at MaxOps ops; what is told may be more than that.
func TestMost(t *testing.T) {
	var l []api.Op
	for at := range api.MaxOps - 1 {
		l = append(l, read(at%5+2, 6))
	}
	all := append(slices.Clone(l), write(1, 6))
	for _, k := range []struct {
		way     int
		more    []api.Op
		aborted string
	}{
		{api.Detect, nil, ""},
		{api.WaitDie, nil, ""},
		{api.WoundWait, []api.Op{abort(2), abort(3), abort(4), abort(5), abort(6), write(1, 6)}, "2,3,4,5,6"},
	} {
		h, aborted, err := strict.Run(all, k.way)
		if err != nil || !slices.Equal(h, append(slices.Clone(l), k.more...)) || numbers(aborted) != k.aborted {
			t.Errorf("way %d: got %q %v %v", k.way, text(h), aborted, err)
		}
		byWords(t, all, k.way)
	}
	// All but one stand behind.
	l = []api.Op{write(1, 1)}
	var rest []api.Op
	for len(rest) < api.MaxOps-2 {
		rest = append(rest, write(2, len(rest)%api.MaxItem+1))
	}
	all = slices.Concat(l, rest, []api.Op{commit(1)})
	want := slices.Concat(l, []api.Op{commit(1)}, rest)
	for _, way := range []int{api.Detect, api.WoundWait} {
		if h, aborted, err := strict.Run(all, way); err != nil || !slices.Equal(h, want) || len(aborted) > 0 {
			t.Errorf("way %d: got %q %v %v", way, text(h), aborted, err)
		}
	}
}

// TestMemory: P2 and P4 of DOC.md.
func TestMemory(t *testing.T) {
	const in = "w3(a) w1(b) r2(a) r2(c) w2(b) r2(d) w5(d) r4(d) c2 c3 c1"
	for _, way := range ways() {
		whole := append(ops(t, in), read(0, 0), commit(1), api.Op{Tx: 9, What: 9, Item: 9})
		kept := slices.Clone(whole)
		n := len(whole) - 3
		first, fell, err := strict.Run(whole[:n], way)
		if err != nil || len(first) == 0 {
			t.Fatalf("way %d: got %v %v %v", way, first, fell, err)
		}
		h, aborted := slices.Clone(first), slices.Clone(fell)
		clear(first[:cap(first)])
		clear(fell[:cap(fell)])
		if !slices.Equal(whole, kept) {
			t.Fatalf("way %d: what was handed in is now %v", way, whole)
		}
		second, again, err := strict.Run(whole[:n], way)
		if err != nil || !slices.Equal(second, h) || !slices.Equal(again, aborted) {
			t.Errorf("way %d: got %v %v %v, want %v %v", way, second, again, err, h, aborted)
		}
		clear(whole)
		if !slices.Equal(second, h) || !slices.Equal(again, aborted) {
			t.Errorf("way %d: what was told is now %v %v", way, second, again)
		}
	}
}

// notes are a run as the promises' words have it: who Holds what is read off what was told, and what is to be done next lies on a pile.
type notes struct {
	way     int
	told    []api.Op
	aborted []int
	granted []api.Op                // locks that are Held, but whose ops are not told yet
	waits   []api.Op                // as they came
	behind  [api.MaxTx + 1][]api.Op // of each deal
	pile    []func()                // the last is next
	passed  int                     // how many were aborted ahead of their turn
	spared  int                     // how often one that was to be aborted next was not
}

func (n *notes) put(f func()) { n.pile = append(n.pile, f) }

// holds: what a deal may do with an item: nothing, read, write.
func (n *notes) holds(tx, item int) int {
	most := 0
	for _, o := range slices.Concat(n.told, n.granted) {
		if o.Tx == tx && o.Item == item {
			most = max(most, o.What)
		}
		if o == commit(tx) || o == abort(tx) {
			return 0
		}
	}
	return most
}

// against: who stops an op, of those that Hold and of some that Wait.
func (n *notes) against(o api.Op, ahead []api.Op) []int {
	var deals []int
	for tx := 1; tx <= api.MaxTx; tx++ {
		stops := o.What == api.Write && n.holds(tx, o.Item) > 0 || n.holds(tx, o.Item) == api.Write
		for _, w := range ahead {
			stops = stops || w.Tx == tx && w.Item == o.Item && w.What+o.What > 2
		}
		if stops && tx != o.Tx {
			deals = append(deals, tx)
		}
	}
	return deals
}

// waiting: which of those that Wait is a deal's; -1, if none is.
func (n *notes) waiting(tx int) int {
	return slices.IndexFunc(n.waits, func(o api.Op) bool { return o.Tx == tx })
}

// waitsFor whom.
func (n *notes) waitsFor(tx int) []int {
	at := n.waiting(tx)
	if at < 0 {
		return nil
	}
	return n.against(n.waits[at], n.waits[:at])
}

// waitsForItself: those for which it waits, and for which these wait, as often as there are deals.
func (n *notes) waitsForItself(tx int) bool {
	far := n.waitsFor(tx)
	for range api.MaxTx {
		for _, o := range slices.Clone(far) {
			far = append(far, n.waitsFor(o)...)
		}
		slices.Sort(far)
		far = slices.Compact(far)
	}
	return slices.Contains(far, tx)
}

func (n *notes) do(o api.Op) {
	if o.What > api.Write {
		n.told = append(n.told, o)
		n.free(o.Tx)
		return
	}
	if n.holds(o.Tx, o.Item) >= o.What || len(n.against(o, n.waits)) == 0 {
		n.told = append(n.told, o)
		return
	}
	n.waits = append(n.waits, o)
	older := func(tx int) bool { return tx < o.Tx }
	switch {
	case n.way == api.Detect && n.waitsForItself(o.Tx), n.way == api.WaitDie && slices.ContainsFunc(n.waitsFor(o.Tx), older):
		n.abort(o.Tx)
	case n.way == api.WoundWait:
		n.put(func() { n.wound(o.Tx, nil) })
	}
}

// wound the least that is younger; the rest of them were so a step ago.
func (n *notes) wound(tx int, rest []int) {
	younger := slices.DeleteFunc(n.waitsFor(tx), func(o int) bool { return o < tx })
	if len(younger) > 0 {
		n.put(func() { n.wound(tx, younger[1:]) })
		n.abort(younger[0])
		return
	}
	lives := func(o int) bool { return !slices.Contains(n.aborted, o) }
	if slices.ContainsFunc(rest, lives) {
		n.spared++
	}
}

func (n *notes) abort(tx int) {
	n.aborted = append(n.aborted, tx)
	n.told = append(n.told, abort(tx))
	n.behind[tx] = nil
	n.free(tx)
}

func (n *notes) free(tx int) {
	isHis := func(o api.Op) bool { return o.Tx == tx }
	n.waits = slices.DeleteFunc(n.waits, isHis)
	n.granted = slices.DeleteFunc(n.granted, isHis)
	var came []func()
	for at := 0; at < len(n.waits); {
		o := n.waits[at]
		if len(n.against(o, n.waits[:at])) > 0 {
			at++
			continue
		}
		n.waits = slices.Delete(n.waits, at, at+1)
		n.granted = append(n.granted, o)
		came = append(came, func() { n.turn(o) })
	}
	slices.Reverse(came)
	n.pile = append(n.pile, came...)
}

// turn of an op that has waited.
func (n *notes) turn(o api.Op) {
	if slices.Contains(n.aborted, o.Tx) {
		n.passed++
		return
	}
	n.granted = slices.DeleteFunc(n.granted, func(g api.Op) bool { return g == o })
	n.told = append(n.told, o)
	n.put(func() { n.next(o.Tx) })
}

// next of what stands behind.
func (n *notes) next(tx int) {
	if len(n.behind[tx]) == 0 || n.waiting(tx) >= 0 {
		return
	}
	o := n.behind[tx][0]
	n.behind[tx] = n.behind[tx][1:]
	n.put(func() { n.next(tx) })
	n.do(o)
}

// run of right ops.
func run(l []api.Op, way int) *notes {
	n := &notes{way: way}
	for _, o := range l {
		switch {
		case slices.Contains(n.aborted, o.Tx):
		case n.waiting(o.Tx) >= 0:
			n.behind[o.Tx] = append(n.behind[o.Tx], o)
		default:
			n.do(o)
		}
		for len(n.pile) > 0 {
			f := n.pile[len(n.pile)-1]
			n.pile = n.pile[:len(n.pile)-1]
			f()
		}
	}
	return n
}

// byWords holds what is told of right ops against the promises' words, and against what is to be true of the whole.
func byWords(t *testing.T, l []api.Op, way int) *notes {
	t.Helper()
	h, aborted, err := strict.Run(l, way)
	n := run(l, way)
	if err != nil || !slices.Equal(h, n.told) || !slices.Equal(aborted, n.aborted) {
		t.Fatalf("way %d, %q: got %q %v %v, want %q %v", way, text(l), text(h), aborted, err, text(n.told), n.aborted)
	}
	eachItsOwn(t, l, h, aborted)
	if len(h) <= api.MaxOps {
		inLine(t, h)
	}
	return n
}

// of a deal, its ops.
func of(h []api.Op, tx int) []api.Op {
	return slices.DeleteFunc(slices.Clone(h), func(o api.Op) bool { return o.Tx != tx })
}

// eachItsOwn: each deal did the first of what it asked, and behind that its Abort, if it was aborted; where all ask to end, all end.
func eachItsOwn(t *testing.T, l, h []api.Op, aborted []int) {
	t.Helper()
	allEnd := true
	for _, o := range l {
		allEnd = allEnd && over(l, o.Tx)
	}
	for tx := 1; tx <= api.MaxTx; tx++ {
		did, wanted := of(h, tx), of(l, tx)
		if allEnd && len(wanted) > 0 && !over(h, tx) {
			t.Fatalf("%q: told %q, in which %d does not end", text(l), text(h), tx)
		}
		if slices.Contains(aborted, tx) {
			if len(did) == 0 || did[len(did)-1] != abort(tx) {
				t.Fatalf("%q: told %q, in which %d does not abort", text(l), text(h), tx)
			}
			did = did[:len(did)-1]
		}
		if len(did) > len(wanted) || !slices.Equal(did, wanted[:len(did)]) {
			t.Fatalf("%q: told %q, which is not as %d asked", text(l), text(h), tx)
		}
	}
}

// inLine: what is told is rigorous and has an order, and if it is what deals ask for, nobody waits, by any way.
func inLine(t *testing.T, h []api.Op) {
	t.Helper()
	if f, err := faces.Of(h); err != nil || !f.Rigorous {
		t.Fatalf("%q: faces are %v %v", text(h), f, err)
	}
	if _, err := serial.Order(h); err != nil {
		t.Fatalf("%q: %v", text(h), err)
	}
	for _, way := range ways() {
		if g, aborted, err := strict.Run(h, way); err != nil || !slices.Equal(g, h) || len(aborted) > 0 {
			t.Fatalf("way %d, %q: got %q %v %v", way, text(h), text(g), aborted, err)
		}
	}
}

// over tells whether a deal ends.
func over(h []api.Op, tx int) bool {
	return slices.Contains(h, commit(tx)) || slices.Contains(h, abort(tx))
}

// grow goes over all ops of at most n, each of which is one of these, and whose deals are done with an end.
func grow(n int, some []api.Op, see func(l []api.Op)) {
	var l []api.Op
	var more func()
	more = func() {
		see(l)
		if len(l) == n {
			return
		}
		for _, o := range some {
			if !over(l, o.Tx) {
				l = append(l, o)
				more()
				l = l[:len(l)-1]
			}
		}
	}
	more()
}

// TestSmall: S1 and S2: all ops of few deals on few items, as they are, and where all commit at last.
func TestSmall(t *testing.T) {
	for _, k := range []struct{ deals, items, n int }{{2, 1, 5}, {2, 2, 4}, {3, 1, 4}, {3, 2, 3}} {
		var some []api.Op
		for tx := 1; tx <= k.deals; tx++ {
			for item := 1; item <= k.items; item++ {
				some = append(some, read(tx, item), write(tx, item))
			}
			some = append(some, commit(tx), abort(tx))
		}
		grow(k.n, some, func(l []api.Op) {
			all := slices.Clone(l)
			for tx := 1; tx <= k.deals; tx++ {
				if !over(l, tx) {
					all = append(all, commit(tx))
				}
			}
			for _, way := range ways() {
				byWords(t, l, way)
				byWords(t, all, way)
			}
		})
	}
}

// roller gives numbers below n, by a rule that mixes them.
func roller() func(n int) int {
	mixed := uint64(1)
	return func(n int) int {
		mixed = mixed*6364136223846793005 + 1442695040888963407
		return int(mixed>>33) % n
	}
}

// mixed ops of up to six deals on up to six items: each deal asks for some, and then mostly to end, by turns.
func mixed(roll func(int) int) []api.Op {
	deals, items := roll(api.MaxTx-1)+2, roll(api.MaxItem)+1
	var left [][]api.Op
	for tx := 1; tx <= deals; tx++ {
		var some []api.Op
		for range roll(api.MaxOps / deals) {
			some = append(some, api.Op{Tx: tx, What: roll(2) + 1, Item: roll(items) + 1})
		}
		if end := roll(9); end > 0 {
			some = append(some, api.Op{Tx: tx, What: api.Commit + end/8})
		}
		left = append(left, some)
	}
	var l []api.Op
	for len(left) > 0 {
		at := roll(len(left))
		if len(left[at]) == 0 {
			left = slices.Delete(left, at, at+1)
			continue
		}
		l = append(l, left[at][0])
		left[at] = left[at][1:]
	}
	return l
}

// TestGreat: S1 and S2: many ops, mixed.
func TestGreat(t *testing.T) {
	roll := roller()
	var fell [3]int
	passed, spared := 0, 0
	for range 8_000 {
		l := mixed(roll)
		for _, way := range ways() {
			n := byWords(t, l, way)
			fell[way] += len(n.aborted)
			passed += n.passed
			spared += n.spared
		}
	}
	if min(fell[0], fell[1], fell[2]) < 2_000 || passed < 20 || spared < 20 {
		t.Errorf("aborted %v, %d ahead of their turn, %d spared: too few to tell", fell, passed, spared)
	}
}
