package odds_test

import (
	"math"
	"slices"
	"strings"
	"testing"

	"locklane/api"
	"locklane/history"
	"locklane/odds"
	"locklane/plain"
)

// ops of a text that is right.
func ops(t *testing.T, text string) []api.Op {
	t.Helper()
	h, err := history.Parse(text)
	if err != nil {
		t.Fatalf("%q: %v", text, err)
	}
	return h
}

// writes is a history of n writes of item 1, deals in turn.
func writes(n int) []api.Op {
	var h []api.Op
	for i := range n {
		h = append(h, api.Op{Tx: i%api.MaxTx + 1, What: api.Write, Item: 1})
	}
	return h
}

// with is a history of n writes, of which one is another op.
func with(n, at int, o api.Op) []api.Op {
	h := writes(n)
	h[at] = o
	return h
}

// edges of numbers, two by two.
func edges(n ...int) []api.Edge {
	var e []api.Edge
	for ; len(n) > 1; n = n[2:] {
		e = append(e, api.Edge{From: n[0], To: n[1]})
	}
	return e
}

func read(tx, item int) api.Op { return api.Op{Tx: tx, What: api.Read, Item: item} }
func commit(tx int) api.Op     { return api.Op{Tx: tx, What: api.Commit} }
func abort(tx int) api.Op      { return api.Op{Tx: tx, What: api.Abort} }

// wrong histories, and what Check says of them.
var wrong = []struct {
	name string
	h    []api.Op
	err  api.Errno
}{
	{"one more than MaxOps", writes(api.MaxOps + 1), api.ErrFull},
	{"far more", writes(1000), api.ErrFull},
	{"too many, and one of no deal", with(api.MaxOps+1, 0, read(0, 1)), api.ErrFull},
	{"last of MaxOps", with(api.MaxOps, api.MaxOps-1, read(1, 0)), api.ErrRange},
	{"deal 0", []api.Op{read(1, 1), read(0, 1)}, api.ErrRange},
	{"deal below 0", []api.Op{read(-1, 1), read(1, 1)}, api.ErrRange},
	{"deal beyond", []api.Op{read(1, 1), read(api.MaxTx+1, 1)}, api.ErrRange},
	{"greatest deal", []api.Op{read(math.MaxInt, 1), read(1, 1)}, api.ErrRange},
	{"least deal", []api.Op{read(math.MinInt, 1), read(1, 1)}, api.ErrRange},
	{"what 0", []api.Op{read(1, 1), {Tx: 2, Item: 1}}, api.ErrRange},
	{"what beyond", []api.Op{read(1, 1), {Tx: 2, What: api.Abort + 1}}, api.ErrRange},
	{"item 0", []api.Op{read(1, 0), read(2, 1)}, api.ErrRange},
	{"item beyond", []api.Op{read(1, 1), read(2, api.MaxItem+1)}, api.ErrRange},
	{"commit of an item", []api.Op{read(1, 1), {Tx: 2, What: api.Commit, Item: 1}}, api.ErrRange},
	{"behind its commit", []api.Op{commit(1), read(1, 1)}, api.ErrState},
	{"behind its abort", []api.Op{abort(1), read(2, 1), read(1, 1)}, api.ErrState},
	{"commit twice", []api.Op{commit(1), commit(1)}, api.ErrState},
	{"range, then state", []api.Op{commit(1), read(0, 1), read(1, 1)}, api.ErrRange},
	{"state, then range", []api.Op{commit(1), read(1, 1), read(0, 1)}, api.ErrState},
}

// TestWrong: O1, Check of all calls, ahead of all else that they tell.
func TestWrong(t *testing.T) {
	for _, k := range wrong {
		if p, err := odds.Pairs(k.h); plain.Told(err) != k.err || len(p) > 0 {
			t.Errorf("Pairs, %s: got %v %v, want %v", k.name, p, err, k.err)
		}
		if e, err := odds.Edges(k.h); plain.Told(err) != k.err || len(e) > 0 {
			t.Errorf("Edges, %s: got %v %v, want %v", k.name, e, err, k.err)
		}
		if n, err := odds.Names(k.h); plain.Told(err) != k.err || len(n) > 0 {
			t.Errorf("Names, %s: got %v %v, want %v", k.name, n, err, k.err)
		}
		for _, i := range []int{-1, 0, 1, len(k.h) - 1, len(k.h), math.MinInt, math.MaxInt} {
			if s, err := odds.Swap(k.h, i); plain.Told(err) != k.err || len(s) > 0 {
				t.Errorf("Swap, %s, at %d: got %v %v, want %v", k.name, i, s, err, k.err)
			}
		}
		for _, right := range [][]api.Op{nil, writes(2)} {
			if is, err := odds.Same(k.h, right); is || plain.Told(err) != k.err {
				t.Errorf("Same, %s first: got %v %v, want %v", k.name, is, err, k.err)
			}
			if is, err := odds.Same(right, k.h); is || plain.Told(err) != k.err {
				t.Errorf("Same, %s behind: got %v %v, want %v", k.name, is, err, k.err)
			}
		}
		for _, other := range wrong {
			if is, err := odds.Same(k.h, other.h); is || plain.Told(err) != k.err {
				t.Errorf("Same, %s, then %s: got %v %v, want %v", k.name, other.name, is, err, k.err)
			}
		}
	}
}

// TestPairs: O1, Pairs.
func TestPairs(t *testing.T) {
	for _, k := range []struct {
		text string
		want []api.Edge
	}{
		{"", nil},
		{"w1(a)", nil},
		{"r1(a) r2(a)", nil},
		{"r1(a) w2(a)", edges(0, 1)},
		{"w1(a) r2(a)", edges(0, 1)},
		{"w1(a) w2(a)", edges(0, 1)},
		{"w2(a) w1(a)", edges(0, 1)},
		{"w6(f) w5(f)", edges(0, 1)},
		{"w1(a) w2(b)", nil},
		{"r1(a) w2(b)", nil},
		{"w1(a) w1(a)", nil},
		{"r1(a) w1(a)", nil},
		{"c1 c2 a3 a4", nil},
		{"w1(a) c2 a3 c1", nil},
		{"w1(a) a1 r2(a) c2", edges(0, 2)},
		{"w1(a) a1 w2(a)", edges(0, 2)},
		{"w1(a) w1(a) r2(a) w2(a)", edges(0, 2, 0, 3, 1, 2, 1, 3)},
		{"r1(a) w2(b) w2(a) r1(b) c2 c1", edges(0, 2, 1, 3)},
		{"w1(a) w2(a) w3(a)", edges(0, 1, 0, 2, 1, 2)},
	} {
		got, err := odds.Pairs(ops(t, k.text))
		if err != nil || !slices.Equal(got, k.want) {
			t.Errorf("%q: got %v %v, want %v", k.text, got, err, k.want)
		}
	}
}

// TestPairsMany: O1, Pairs of a list of MaxOps ops: each with each of the other deals.
func TestPairsMany(t *testing.T) {
	var want []api.Edge
	for i := range api.MaxOps {
		for j := i + 1; j < api.MaxOps; j++ {
			if i%api.MaxTx != j%api.MaxTx {
				want = append(want, api.Edge{From: i, To: j})
			}
		}
	}
	got, err := odds.Pairs(writes(api.MaxOps))
	if err != nil || !slices.Equal(got, want) {
		t.Errorf("got %v %v, want %v", got, err, want)
	}
}

// TestEdges: O1, Edges.
func TestEdges(t *testing.T) {
	for _, k := range []struct {
		text string
		want []api.Edge
	}{
		{"", nil},
		{"c1 c2", nil},
		{"w1(a) w2(a)", nil},
		{"w1(a) w2(a) c1", nil},
		{"w1(a) w2(a) c2", nil},
		{"w1(a) w2(a) c1 a2", nil},
		{"w1(a) w2(a) a1 c2", nil},
		{"w1(a) w2(a) c1 c2", edges(1, 2)},
		{"w2(a) w1(a) c1 c2", edges(2, 1)},
		{"r1(a) w2(a) c2 c1", edges(1, 2)},
		{"w1(a) r2(a) c2 c1", edges(1, 2)},
		{"r1(a) r2(a) c1 c2", nil},
		{"w1(a) w2(b) c1 c2", nil},
		{"w1(a) w1(a) c1", nil},
		{"w1(a) w1(b) w2(a) r2(b) c1 c2", edges(1, 2)},
		{"w1(a) w2(b) w2(a) w1(b) c1 c2", edges(1, 2, 2, 1)},
		{"r1(a) w2(a) w1(a) c1 c2", edges(1, 2, 2, 1)},
		// Who aborts is no way from one to the other.
		{"w1(a) r3(a) w3(b) a3 w2(b) c1 c2", nil},
		{"w1(a) r3(a) w3(b) c3 w2(b) c1 c2", edges(1, 3, 3, 2)},
		{"w6(f) c6 r5(f) w1(f) c1 c5", edges(5, 1, 6, 1, 6, 5)},
		{"r2(a) w3(a) r4(a) w1(a) c1 c2 c3 c4", edges(2, 1, 2, 3, 3, 1, 3, 4, 4, 1)},
		{"w6(a) w5(a) w4(a) c6 c5 c4", edges(5, 4, 6, 4, 6, 5)},
		{"w1(a) r6(a) w5(b) w6(b) c1 c5 c6", edges(1, 6, 5, 6)},
	} {
		got, err := odds.Edges(ops(t, k.text))
		if err != nil || !slices.Equal(got, k.want) {
			t.Errorf("%q: got %v %v, want %v", k.text, got, err, k.want)
		}
	}
}

// TestEdgesMany: O1, Edges of a list of MaxOps ops: all deals write at once, and all but one commit.
func TestEdgesMany(t *testing.T) {
	h := writes(api.MaxOps - api.MaxTx)
	for tx := 1; tx < api.MaxTx; tx++ {
		h = append(h, commit(tx))
	}
	h = append(h, abort(api.MaxTx))
	var want []api.Edge
	for from := 1; from < api.MaxTx; from++ {
		for to := 1; to < api.MaxTx; to++ {
			if from != to {
				want = append(want, api.Edge{From: from, To: to})
			}
		}
	}
	got, err := odds.Edges(h)
	if err != nil || !slices.Equal(got, want) {
		t.Errorf("got %v %v, want %v", got, err, want)
	}
}

// TestSwap: O1, Swap.
func TestSwap(t *testing.T) {
	for _, k := range []struct {
		text string
		at   int
		want string
		err  api.Errno
	}{
		{"r1(a) r2(a)", 0, "r2(a) r1(a)", api.OK},
		{"w1(a) w2(b)", 0, "w2(b) w1(a)", api.OK},
		{"r1(a) w2(b) c1", 1, "r1(a) c1 w2(b)", api.OK},
		{"c1 a2", 0, "a2 c1", api.OK},
		{"w1(a) c2 r1(a)", 0, "c2 w1(a) r1(a)", api.OK},
		{"w1(a) a2 r1(a)", 1, "w1(a) r1(a) a2", api.OK},
		// Only those that stand there matter: what is at odds with another one moves too.
		{"w1(a) r2(b) w2(a)", 0, "r2(b) w1(a) w2(a)", api.OK},

		{"r1(a) w2(a)", 0, "", api.ErrClash},
		{"w1(a) r2(a)", 0, "", api.ErrClash},
		{"w1(a) w2(a)", 0, "", api.ErrClash},
		{"r1(a) r1(a)", 0, "", api.ErrClash},
		{"r1(a) r1(b)", 0, "", api.ErrClash},
		{"r1(a) c1", 0, "", api.ErrClash},
		{"r2(b) w1(a) w1(b)", 1, "", api.ErrClash},

		{"", 0, "", api.ErrRange},
		{"", -1, "", api.ErrRange},
		{"r1(a)", 0, "", api.ErrRange},
		{"r1(a)", -1, "", api.ErrRange},
		{"r1(a) r2(a)", -1, "", api.ErrRange},
		{"r1(a) r2(a)", 1, "", api.ErrRange},
		{"r1(a) r2(a)", 2, "", api.ErrRange},
		{"r1(a) r2(a)", 3, "", api.ErrRange},
		{"r1(a) r2(a)", math.MinInt, "", api.ErrRange},
		{"r1(a) r2(a)", math.MaxInt, "", api.ErrRange},
		{"r1(a) w2(a)", 1, "", api.ErrRange},
	} {
		got, err := odds.Swap(ops(t, k.text), k.at)
		if plain.Told(err) != k.err || !slices.Equal(got, ops(t, k.want)) {
			t.Errorf("%q at %d: got %v %v, want %q %v", k.text, k.at, got, err, k.want, k.err)
		}
	}
}

// TestSwapMany: O1, Swap at the bounds of a list of MaxOps ops.
func TestSwapMany(t *testing.T) {
	h := writes(api.MaxOps)
	last := api.MaxOps - 1
	h[last].Item = api.MaxItem
	want := slices.Clone(h)
	want[last-1], want[last] = want[last], want[last-1]
	if got, err := odds.Swap(h, last-1); err != nil || !slices.Equal(got, want) {
		t.Errorf("got %v %v, want %v", got, err, want)
	}
	if got, err := odds.Swap(h, last); plain.Told(err) != api.ErrRange || len(got) > 0 {
		t.Errorf("got %v %v, want %v", got, err, api.ErrRange)
	}
	if got, err := odds.Swap(h, 0); plain.Told(err) != api.ErrClash || len(got) > 0 {
		t.Errorf("got %v %v, want %v", got, err, api.ErrClash)
	}
}

// TestSame: O1, Same, asked both ways round.
func TestSame(t *testing.T) {
	for _, k := range []struct {
		h, g string
		want bool
	}{
		{"", "", true},
		{"", "c1", false},
		{"r1(a) r2(a)", "r2(a) r1(a)", true},
		{"w1(a) w2(b)", "w2(b) w1(a)", true},
		{"w1(a) w2(a)", "w1(a) w2(a)", true},
		{"w1(a) w2(a)", "w2(a) w1(a)", false},
		{"r1(a) w2(a)", "w2(a) r1(a)", false},
		{"c1 a2", "a2 c1", true},
		// The order within a deal holds, whether at odds or not.
		{"r1(a) r1(b)", "r1(b) r1(a)", false},
		{"r1(a) w1(a) r1(a)", "r1(a) r1(a) w1(a)", false},
		// Other ops.
		{"r1(a)", "w1(a)", false},
		{"r1(a)", "r1(b)", false},
		{"r1(a)", "r2(a)", false},
		{"c1", "a1", false},
		{"r1(a)", "r1(a) r1(a)", false},
		{"r1(a) r1(a) r2(a)", "r1(a) r2(a) r2(a)", false},
		{"r1(a) c1", "r1(a)", false},
		// Those that have not ended, or are aborted, count as well.
		{"w1(a) w2(a) a1 a2", "w2(a) w1(a) a1 a2", false},
		{"w1(a) w2(a) c1 a2", "w2(a) w1(a) c1 a2", false},
		{"w1(a) w2(a) c1", "w2(a) w1(a) c1", false},
		// A deal that does the same twice: it is the first, and the second, that are held against others.
		{"r1(a) w2(a) r1(a)", "r1(a) r1(a) w2(a)", false},
		{"r1(a) w2(a) r1(a)", "w2(a) r1(a) r1(a)", false},
		{"r1(a) w2(a) r1(a)", "r1(a) w2(a) r1(a)", true},
		{"w1(a) r2(b) w1(a) r3(a)", "r2(b) w1(a) w1(a) r3(a)", true},
		{"w1(a) w2(a) w1(a) w2(a)", "w1(a) w1(a) w2(a) w2(a)", false},
		// What the same deals lead to is not enough.
		{"w1(a) w1(b) r2(a) r2(b)", "w1(a) r2(a) w1(b) r2(b)", true},
		{"w1(a) r2(a) w2(b) r1(b) r1(c) w2(c)", "w1(a) r2(a) w2(b) r1(b) w2(c) r1(c)", false},
		{"r1(a) w2(b) w2(a) r1(b) c2 c1", "w2(b) r1(a) w2(a) r1(b) c1 c2", true},
	} {
		if got, err := odds.Same(ops(t, k.h), ops(t, k.g)); err != nil || got != k.want {
			t.Errorf("%q, %q: got %v %v, want %v", k.h, k.g, got, err, k.want)
		}
		if got, err := odds.Same(ops(t, k.g), ops(t, k.h)); err != nil || got != k.want {
			t.Errorf("%q, %q: got %v %v, want %v", k.g, k.h, got, err, k.want)
		}
	}
}

// TestSameMany: O1, Same of lists of MaxOps ops.
func TestSameMany(t *testing.T) {
	h := writes(api.MaxOps)
	if is, err := odds.Same(h, slices.Clone(h)); err != nil || !is {
		t.Errorf("the same: got %v %v", is, err)
	}
	g := slices.Clone(h)
	last := len(g) - 1
	g[last-1], g[last] = g[last], g[last-1]
	if is, err := odds.Same(h, g); err != nil || is {
		t.Errorf("the last two at odds: got %v %v", is, err)
	}
	h[last].Item, g[last-1].Item = 2, 2
	if is, err := odds.Same(h, g); err != nil || !is {
		t.Errorf("the last two, not at odds: got %v %v", is, err)
	}
	if is, err := odds.Same(h, h[:last]); err != nil || is {
		t.Errorf("one fewer: got %v %v", is, err)
	}
}

// TestNames: each op has a name of its own, that tells which of its deal's ops it is, whoever goes between.
func TestNames(t *testing.T) {
	for _, k := range []struct {
		text string
		want []int
	}{
		{"", nil},
		{"r1(a)", []int{0}},
		{"r1(a) r1(a) r1(a) c1", []int{0, 1, 2, 3}},
		{"r1(a) w2(a) r1(a) c2 a1 w6(f)", []int{0, 0, 1, 1, 2, 0}},
		{"w6(f) w5(f) w6(f) w5(f) w6(f)", []int{0, 0, 1, 1, 2}},
	} {
		h := ops(t, k.text)
		var want []odds.Name
		for at, nth := range k.want {
			want = append(want, odds.Name{Op: h[at], Nth: nth})
		}
		if got, err := odds.Names(h); err != nil || !slices.Equal(got, want) {
			t.Errorf("%q: got %v %v, want %v", k.text, got, err, want)
		}
	}
}

// orders of a history's ops that are histories, each once.
func orders(h []api.Op) [][]api.Op {
	texts := map[string][]api.Op{}
	var lay func(laid, rest []api.Op)
	lay = func(laid, rest []api.Op) {
		if len(rest) == 0 {
			if text, err := history.Print(laid); err == nil {
				texts[text] = slices.Clone(laid)
			}
			return
		}
		for i, o := range rest {
			lay(append(slices.Clone(laid), o), slices.Delete(slices.Clone(rest), i, i+1))
		}
	}
	lay(nil, h)
	var all [][]api.Op
	for _, o := range texts {
		all = append(all, o)
	}
	return all
}

// reached by swaps from a history, as texts.
func reached(t *testing.T, h []api.Op) map[string]bool {
	seen := map[string]bool{}
	for work := [][]api.Op{h}; len(work) > 0; work = work[1:] {
		text, err := history.Print(work[0])
		if err != nil {
			t.Fatalf("swapped to %v: %v", work[0], err)
		}
		if seen[text] {
			continue
		}
		seen[text] = true
		for i := range h {
			if s, err := odds.Swap(work[0], i); err == nil {
				work = append(work, s)
			}
		}
	}
	return seen
}

// TestSameBySwaps: O1: of all orders of some ops just those are the same to which swaps lead, and they have the same edges.
func TestSameBySwaps(t *testing.T) {
	for _, text := range []string{
		"r1(a) w2(a) r1(a) w3(b) c1",
		"w1(a) w2(a) w1(a) w2(a) r3(a)",
		"r1(a) w2(b) w2(a) r1(b) c2 c1",
		"w1(a) r2(a) r3(a) w3(b) a2 c1",
		"r1(a) r2(b) w3(a) w3(b) c3 c2",
	} {
		h := ops(t, text)
		by := reached(t, h)
		was, err := odds.Edges(h)
		if err != nil {
			t.Fatal(err)
		}
		found := 0
		for _, g := range orders(h) {
			to, _ := history.Print(g)
			is, err := odds.Same(h, g)
			if err != nil || is != by[to] {
				t.Errorf("%q, %q: got %v %v, want %v", text, to, is, err, by[to])
			}
			if !is {
				continue
			}
			found++
			if e, err := odds.Edges(g); err != nil || !slices.Equal(e, was) {
				t.Errorf("%q, %q: edges %v %v, want %v", text, to, e, err, was)
			}
		}
		if found != len(by) {
			t.Errorf("%q: %d are the same, %d are reached", text, found, len(by))
		}
	}
}

// TestMemory: P2 and P4 of DOC.md: what is handed in stays, nothing behind its length is read or written, and what comes out is fresh.
func TestMemory(t *testing.T) {
	whole := append(ops(t, "w1(a) r2(b) w2(a) c1 c2"), api.Op{Tx: -7, What: 99, Item: 5}, commit(1))
	was := slices.Clone(whole)
	h := whole[:5]
	for range 2 {
		pairs, err := odds.Pairs(h)
		if err != nil || !slices.Equal(pairs, edges(0, 2)) {
			t.Fatalf("Pairs: got %v %v", pairs, err)
		}
		ways, err := odds.Edges(h)
		if err != nil || !slices.Equal(ways, edges(1, 2)) {
			t.Fatalf("Edges: got %v %v", ways, err)
		}
		if is, err := odds.Same(h, was[:5]); err != nil || !is {
			t.Fatalf("Same: got %v %v", is, err)
		}
		swapped, err := odds.Swap(h, 0)
		if err != nil || !slices.Equal(swapped, ops(t, "r2(b) w1(a) w2(a) c1 c2")) {
			t.Fatalf("Swap: got %v %v", swapped, err)
		}
		if _, err := odds.Swap(h, 4); plain.Told(err) != api.ErrRange {
			t.Fatalf("Swap behind the end: got %v", err)
		}
		clear(pairs[:cap(pairs)])
		clear(ways[:cap(ways)])
		clear(swapped[:cap(swapped)])
		if !slices.Equal(whole, was) {
			t.Fatalf("what was handed in is now %v", whole)
		}
	}
}

// TestPairsByWords: O1, Pairs of all histories of two ops on few items, held against the promise's words.
func TestPairsByWords(t *testing.T) {
	words := strings.Fields("r1(a) w1(a) r1(b) w1(b) c1 a1 r2(a) w2(a) r2(b) w2(b) c2 a2")
	for _, first := range words {
		for _, next := range words {
			h, err := history.Parse(first + " " + next)
			if err != nil {
				continue
			}
			unlike := first[1] != next[1]
			oneItem := len(first) > 2 && len(next) > 2 && first[3] == next[3]
			oneWrites := first[0] == 'w' || next[0] == 'w'
			var want []api.Edge
			if unlike && oneItem && oneWrites {
				want = edges(0, 1)
			}
			if got, err := odds.Pairs(h); err != nil || !slices.Equal(got, want) {
				t.Errorf("%q %q: got %v %v, want %v", first, next, got, err, want)
			}
		}
	}
}
