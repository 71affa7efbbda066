package tree_test

import (
	"math"
	"slices"
	"strings"
	"testing"

	"locklane/api"
	"locklane/graph"
	"locklane/plain"
	"locklane/tree"
)

func lock(tx, item int) api.Grip { return api.Grip{Tx: tx, Item: item, Lock: true} }
func free(tx, item int) api.Grip { return api.Grip{Tx: tx, Item: item} }

// grips of a text: +12 is deal 1's Lock of item 2, -12 lets it go.
func grips(text string) (l []api.Grip) {
	for _, w := range strings.Fields(text) {
		l = append(l, api.Grip{Tx: int(w[1] - '0'), Item: int(w[2] - '0'), Lock: w[0] == '+'})
	}
	return l
}

// edges of a text: 12 is from 1 to 2.
func edges(text string) (l []api.Edge) {
	for _, w := range strings.Fields(text) {
		l = append(l, api.Edge{From: int(w[0] - '0'), To: int(w[1] - '0')})
	}
	return l
}

// refused holds that both calls tell this error, of the Grip at this place.
func refused(t *testing.T, name string, up []int, l []api.Grip, at int, want api.Errno) {
	t.Helper()
	if got, err := tree.Legal(up, l); plain.Told(err) != want || got != at {
		t.Errorf("Legal, %s: got %v %v, want %v %v", name, got, err, at, want)
	}
	if e, err := tree.Edges(up, l); plain.Told(err) != want || len(e) != 0 {
		t.Errorf("Edges, %s: got %v %v, want %v", name, e, err, want)
	}
}

// legal holds that nothing is wrong, and that these are the edges.
func legal(t *testing.T, name string, up []int, l []api.Grip, want []api.Edge) {
	t.Helper()
	if at, err := tree.Legal(up, l); err != nil || at != 0 {
		t.Errorf("Legal, %s: got %v %v", name, at, err)
	}
	if e, err := tree.Edges(up, l); err != nil || !slices.Equal(e, want) {
		t.Errorf("Edges, %s: got %v %v, want %v", name, e, err, want)
	}
}

// TestCheck: T1: which trees may be; Legal and Edges tell Check's error ahead of any other one.
func TestCheck(t *testing.T) {
	for _, k := range []struct {
		name string
		up   []int
		err  api.Errno
	}{
		{"one item", []int{0}, api.OK},
		{"in a row", []int{0, 1, 2, 3, 4, 5}, api.OK},
		{"all below the first", []int{0, 1, 1, 1, 1, 1}, api.OK},
		{"mixed", []int{0, 1, 2, 1, 4, 2}, api.OK},
		{"nil", nil, api.ErrRange},
		{"no items", []int{}, api.ErrRange},
		{"one more than MaxItem", []int{0, 1, 2, 3, 4, 5, 6}, api.ErrRange},
		{"far more", make([]int, 1000), api.ErrRange},
		{"too many, and the first is not 0", []int{1, 1, 2, 3, 4, 5, 6}, api.ErrRange},
		{"first below itself", []int{1}, api.ErrShape},
		{"first below 0", []int{-1}, api.ErrShape},
		{"first below another one", []int{2, 1, 1}, api.ErrShape},
		{"least first", []int{math.MinInt, 1}, api.ErrShape},
		{"greatest first", []int{math.MaxInt, 1}, api.ErrShape},
		{"first, and a later one", []int{1, 0}, api.ErrShape},
		{"first, and a later one beyond", []int{1, 9}, api.ErrShape},
		{"second is 0", []int{0, 0}, api.ErrRange},
		{"second below 0", []int{0, -1}, api.ErrRange},
		{"second its own number", []int{0, 2}, api.ErrRange},
		{"second above it", []int{0, 3, 1}, api.ErrRange},
		{"third is 0", []int{0, 1, 0}, api.ErrRange},
		{"third its own number", []int{0, 1, 3}, api.ErrRange},
		{"last is 0", []int{0, 1, 2, 3, 4, 0}, api.ErrRange},
		{"last its own number", []int{0, 1, 2, 3, 4, 6}, api.ErrRange},
		{"last above it", []int{0, 1, 2, 3, 4, 7}, api.ErrRange},
		{"least last", []int{0, 1, math.MinInt}, api.ErrRange},
		{"greatest last", []int{0, 1, math.MaxInt}, api.ErrRange},
		{"around", []int{0, 3, 2}, api.ErrRange},
	} {
		if err := tree.Check(k.up); plain.Told(err) != k.err {
			t.Errorf("%s: got %v, want %v", k.name, err, k.err)
		}
		if k.err == api.OK {
			legal(t, k.name, k.up, nil, nil)
			continue
		}
		refused(t, k.name+", no grips", k.up, nil, 0, k.err)
		refused(t, k.name+", right grips", k.up, grips("+11 -11 +21"), 0, k.err)
		refused(t, k.name+", a wrong grip", k.up, grips("+11 -11 -11"), 0, k.err)
		refused(t, k.name+", too many grips", k.up, make([]api.Grip, api.MaxOps+1), 0, k.err)
	}
}

// TestAllTrees: T1: Check of all trees of at most four numbers from -1 to 5.
func TestAllTrees(t *testing.T) {
	var grow func(up []int, want api.Errno)
	grow = func(up []int, want api.Errno) {
		if err := tree.Check(up); plain.Told(err) != want {
			t.Fatalf("%v: got %v, want %v", up, err, want)
		}
		if len(up) == 4 {
			return
		}
		for above := -1; above <= 5; above++ {
			next := want
			if len(up) == 0 {
				next = api.OK
				if above != 0 {
					next = api.ErrShape
				}
			} else if want == api.OK && (above <= 0 || above >= len(up)+1) {
				next = api.ErrRange
			}
			grow(append(slices.Clone(up), above), next)
		}
	}
	grow(nil, api.ErrRange)
}

// most are MaxOps grips that are right, with their tree: one deal behind the other goes down four items in a row, hand over hand.
func most() ([]int, []api.Grip) {
	up := []int{0, 1, 2, 3}
	var l []api.Grip
	for tx := 1; tx <= api.MaxTx; tx++ {
		l = append(l, lock(tx, 1))
		for item := 2; item <= len(up); item++ {
			l = append(l, lock(tx, item), free(tx, item-1))
		}
		l = append(l, free(tx, len(up)))
	}
	return up, l[:api.MaxOps]
}

// TestMost: T1 at MaxOps grips and beyond.
func TestMost(t *testing.T) {
	up, l := most()
	legal(t, "MaxOps", up, l, edges("12 13 14 15 23 24 25 34 35 45"))
	last := api.MaxOps - 1
	for _, k := range []struct {
		last api.Grip
		err  api.Errno
	}{
		{lock(7, 1), api.ErrRange},
		{lock(1, 5), api.ErrRange},
		{free(6, 1), api.ErrNone},
		{lock(1, 1), api.ErrState},
	} {
		g := slices.Clone(l)
		g[last] = k.last
		refused(t, "last of MaxOps", up, g, last, k.err)
	}
	refused(t, "one more than MaxOps", up, append(slices.Clone(l), lock(6, 1)), 0, api.ErrFull)
	refused(t, "too many, and the last wrong", up, append(slices.Clone(l), lock(0, 1)), 0, api.ErrFull)
	refused(t, "too many, and the first wrong", up, append([]api.Grip{lock(7, 1)}, l...), 0, api.ErrFull)
	refused(t, "far more", up, make([]api.Grip, 1000), 0, api.ErrFull)
}

// TestRange: T1: a deal or an item that is none, ahead of whatever else may be wrong with the Grip.
func TestRange(t *testing.T) {
	up := []int{0, 1, 1}
	for _, n := range []int{0, -1, math.MinInt, math.MaxInt, api.MaxTx + 1} {
		for _, g := range []api.Grip{lock(n, 1), lock(n, 2), free(n, 1), free(n, 2), lock(n, n), free(n, n)} {
			refused(t, "deal", up, []api.Grip{lock(1, 1), g}, 1, api.ErrRange)
			refused(t, "deal, first", up, []api.Grip{g, lock(1, 1)}, 0, api.ErrRange)
		}
	}
	for _, n := range []int{0, -1, math.MinInt, math.MaxInt, len(up) + 1, api.MaxItem, api.MaxItem + 1} {
		for _, g := range []api.Grip{lock(1, n), lock(2, n), free(1, n), free(2, n)} {
			refused(t, "item", up, []api.Grip{lock(1, 1), g}, 1, api.ErrRange)
			refused(t, "item, first", up, []api.Grip{g, lock(1, 1)}, 0, api.ErrRange)
		}
	}
	wide := []int{0, 1, 2, 3, 4, 5}
	legal(t, "greatest deal and item", wide, grips("+66 -66 +16"), edges("61"))
	legal(t, "last item of the tree", up, grips("+63"), nil)
}

// TestWrong: T1: what is wrong with a Grip as things stand, and where.
func TestWrong(t *testing.T) {
	row, fork := []int{0, 1, 2}, []int{0, 1, 1}
	for _, k := range []struct {
		name string
		up   []int
		l    string
		at   int
		err  api.Errno
	}{
		{"another one holds it", row, "+11 +21", 1, api.ErrClash},
		{"the deal itself holds it", row, "+11 +11", 1, api.ErrClash},
		{"another one holds it, locked from above", row, "+22 +11 +12", 2, api.ErrClash},
		{"held, as the deal had it and let it go", row, "+11 -11 +21 +11", 3, api.ErrClash},
		{"held, as the deal does not hold the one above", row, "+23 +11 +13", 2, api.ErrClash},
		{"held by itself, the one above let go", row, "+11 +12 -11 +12", 3, api.ErrClash},
		{"had it, and let it go", row, "+11 -11 +11", 2, api.ErrState},
		{"had it, let it go, another one had it since", row, "+11 -11 +21 -21 +11", 4, api.ErrState},
		{"had it, and holds the one above", row, "+11 +12 -12 +12", 3, api.ErrState},
		{"never had the one above", row, "+11 +13", 1, api.ErrState},
		{"never had the one above, nor holds any", row, "+11 -11 +13", 2, api.ErrState},
		{"let go of the one above", row, "+11 -11 +12", 2, api.ErrState},
		{"let go of the one above, holds one beside", fork, "+11 +12 -11 +13", 3, api.ErrState},
		{"another one holds the one above", row, "+13 +21 +12", 2, api.ErrState},
		{"the one above was let go, and is another one's", row, "+11 -11 +21 +12", 3, api.ErrState},
		{"the first item, when it has another one", row, "+12 +11", 1, api.ErrState},
		{"the first item, when it had another one", row, "+12 -12 +11", 2, api.ErrState},
		{"two beside each other", fork, "+12 +13", 1, api.ErrState},
		{"one further up", row, "+13 +12", 1, api.ErrState},
		{"two above each other, not one", row, "+11 +12 -12 +13", 3, api.ErrState},
		{"let go, never had", row, "-11", 0, api.ErrNone},
		{"let go of another item", row, "+11 -12", 1, api.ErrNone},
		{"let go already", row, "+11 -11 -11", 2, api.ErrNone},
		{"let go, held by another one", row, "+11 -21", 1, api.ErrNone},
		{"let go already, held by another one", row, "+11 -11 +21 -11", 3, api.ErrNone},
		{"let go twice, another one between", row, "+11 -11 +21 -21 -11", 4, api.ErrNone},
		// Of several the first.
		{"none, then clash", row, "+11 -12 +11", 1, api.ErrNone},
		{"clash, then none", row, "+11 +21 -12", 1, api.ErrClash},
		{"state, then range", row, "+11 +13 +91", 1, api.ErrState},
		{"range, then state", row, "+11 +91 +13", 1, api.ErrRange},
		{"first of all, and the last", row, "-11 +11 +11", 0, api.ErrNone},
	} {
		refused(t, k.name, k.up, grips(k.l), k.at, k.err)
		legal(t, k.name+", ahead of it", k.up, grips(k.l)[:k.at], edgesByWords(grips(k.l)[:k.at]))
	}
}

// TestLegal: T1: what is right, and the edges of it.
func TestLegal(t *testing.T) {
	row, fork := []int{0, 1, 2, 3}, []int{0, 1, 1, 2, 2, 3}
	for _, k := range []struct {
		name string
		up   []int
		l    string
		want string
	}{
		{"none", row, "", ""},
		{"a deal's first at the top", row, "+11", ""},
		{"a deal's first in the middle", row, "+12 +13", ""},
		{"a deal's first at the bottom", fork, "+16", ""},
		{"first ones side by side", fork, "+12 +23 +36 +41", ""},
		{"one deal alone", fork, "+11 +12 +13 -11 +14 +15 -12 -15 +16 -13 -14 -16", ""},
		{"hand over hand", row, "+11 +12 -11 +13 -12 +14", ""},
		{"the one above let go behind", row, "+11 +12 -11", ""},
		{"let go in any order", row, "+11 +12 +13 -12 -11 -13", ""},
		{"one behind the other", row, "+11 -11 +21", "12"},
		{"the greater one first", row, "+21 -21 +11", "21"},
		{"not let go at last", row, "+11 +12 -12 -11 +22", "12"},
		{"each once, by two items", row, "+11 +12 -11 -12 +21 +22", "12"},
		{"to all behind, not just the next", row, "+31 -31 +11 -11 +21", "12 31 32"},
		{"by From, then To", fork, "+66 -66 +56 -56 +12 -12 +22 -22 +32", "12 13 23 65"},
		{"by From, then To, the other way round", fork, "+32 -32 +22 -22 +12 -12 +56 -56 +66", "21 31 32 56"},
		{"different items of two", fork, "+12 -12 +23 -23", ""},
		{"different items of two, below each other", row, "+12 -12 +21 -21 +33", ""},
		{"by one item of several", fork, "+12 +14 -14 -12 +24", "12"},
		{"one who comes from above behind one below", row, "+12 +21 -12 +22 -22", "12"},
		{"passed by one side of the fork", fork, "+11 +12 -11 +21 +23 -21 -12 +32 -23 +43", "12 13 24"},
		{"let go counts as had", row, "+11 +12 -12 -11 +22 -22 +32", "12 13 23"},
	} {
		legal(t, k.name, k.up, grips(k.l), edges(k.want))
	}
}

// heldBy a deal is an item if its last Grip on it locked it.
func heldBy(past []api.Grip, tx, item int) bool {
	for _, g := range slices.Backward(past) {
		if g.Tx == tx && g.Item == item {
			return g.Lock
		}
	}
	return false
}

// gripByWords is what T1 says of one Grip behind right ones, told without the program.
func gripByWords(up []int, past []api.Grip, g api.Grip) api.Errno {
	held, began := false, false
	for tx := 1; tx <= api.MaxTx; tx++ {
		held = held || heldBy(past, tx, g.Item)
	}
	for _, o := range past {
		began = began || o.Tx == g.Tx
	}
	had := slices.Contains(past, lock(g.Tx, g.Item))
	switch {
	case g.Tx < 1 || g.Tx > api.MaxTx || g.Item < 1 || g.Item > len(up):
		return api.ErrRange
	case !g.Lock && !heldBy(past, g.Tx, g.Item):
		return api.ErrNone
	case !g.Lock:
		return api.OK
	case held:
		return api.ErrClash
	case had || began && !heldBy(past, g.Tx, up[g.Item-1]):
		return api.ErrState
	}
	return api.OK
}

// edgesByWords are those of right grips, told without the program.
func edgesByWords(l []api.Grip) (e []api.Edge) {
	for from := 1; from <= api.MaxTx; from++ {
		for to := 1; to <= api.MaxTx; to++ {
			leads := false
			for item := 1; item <= api.MaxItem; item++ {
				a, b := slices.Index(l, lock(from, item)), slices.Index(l, lock(to, item))
				leads = leads || a >= 0 && b > a
			}
			if leads {
				e = append(e, api.Edge{From: from, To: to})
			}
		}
	}
	return e
}

// noRing holds that edges of right grips go around nowhere (DOC.md, what is to be true of the whole).
func noRing(t *testing.T, up []int, l []api.Grip) {
	t.Helper()
	e, err := tree.Edges(up, l)
	if err != nil {
		t.Fatalf("%v on %v: %v", l, up, err)
	}
	if ring, err := graph.Ring(e); plain.Told(err) != api.ErrNone {
		t.Fatalf("%v on %v goes around: %v %v", l, up, ring, err)
	}
}

// byWords holds right grips and one more against the words, and tells whether that is right too.
func byWords(t *testing.T, up []int, l []api.Grip) bool {
	t.Helper()
	last := len(l) - 1
	want, place := gripByWords(up, l[:last], l[last]), last
	var e []api.Edge
	if want == api.OK {
		place, e = 0, edgesByWords(l)
	}
	if at, err := tree.Legal(up, l); plain.Told(err) != want || at != place {
		t.Fatalf("Legal of %v on %v: got %v %v, want %v %v", l, up, at, err, place, want)
	}
	if got, err := tree.Edges(up, l); plain.Told(err) != want || !slices.Equal(got, e) {
		t.Fatalf("Edges of %v on %v: got %v %v, want %v %v", l, up, got, err, e, want)
	}
	return want == api.OK
}

// TestSmall: T1: all short lists of grips of few deals on small trees, right but for the last one.
func TestSmall(t *testing.T) {
	for _, k := range []struct {
		up       []int
		deals, n int
	}{
		{[]int{0}, 3, 7},
		{[]int{0, 1}, 2, 8},
		{[]int{0, 1}, 3, 6},
		{[]int{0, 1, 2}, 2, 7},
		{[]int{0, 1, 1}, 2, 7},
		{[]int{0, 1, 1, 2}, 3, 5},
	} {
		var l []api.Grip
		var grow func()
		grow = func() {
			noRing(t, k.up, l)
			if len(l) == k.n {
				return
			}
			for tx := 0; tx <= k.deals; tx++ {
				for item := 0; item <= len(k.up)+1; item++ {
					for _, g := range []api.Grip{lock(tx, item), free(tx, item)} {
						l = append(l, g)
						if byWords(t, k.up, l) {
							grow()
						}
						l = l[:len(l)-1]
					}
				}
			}
		}
		grow()
	}
}

// nextByWords are the grips that a deal may make which locks all it can, from the top, ahead of letting any go.
func nextByWords(up []int, past []api.Grip, tx int) []api.Grip {
	var locks, frees []api.Grip
	for at, above := range up {
		item := at + 1
		fromAbove := item == 1 || heldBy(past, tx, above)
		if fromAbove && gripByWords(up, past, lock(tx, item)) == api.OK {
			locks = append(locks, lock(tx, item))
		}
		if heldBy(past, tx, item) {
			frees = append(frees, free(tx, item))
		}
	}
	if len(locks) > 0 {
		return locks
	}
	return frees
}

// TestGreat: T1: six deals on trees of up to six items, by a rule that mixes numbers, as long as may be.
func TestGreat(t *testing.T) {
	mixed := uint64(1)
	roll := func(n int) int {
		mixed = mixed*6364136223846793005 + 1442695040888963407
		return int(mixed>>33) % n
	}
	had, longest, met := map[api.Errno]int{}, 0, 0
	for i := range 4000 {
		up := []int{0}
		for len(up) < i%api.MaxItem+1 {
			up = append(up, roll(len(up))+1)
		}
		// Half of the lists are of deals that lock all they can, as they get long by that.
		long := i/api.MaxItem%2 > 0
		var l []api.Grip
		for range 150 {
			g := api.Grip{Tx: roll(api.MaxTx) + 1, Item: roll(len(up)) + 1, Lock: roll(3) > 0}
			if next := nextByWords(up, l, g.Tx); long && len(next) > 0 {
				g = next[roll(len(next))]
			} else if long && roll(4) > 0 {
				continue
			}
			had[gripByWords(up, l, g)]++
			if byWords(t, up, append(l, g)) {
				l = append(l, g)
			}
			if len(l) == api.MaxOps {
				break
			}
		}
		noRing(t, up, l)
		longest, met = max(longest, len(l)), max(met, len(edgesByWords(l)))
	}
	if len(had) != 4 || longest < api.MaxOps || met < 15 {
		t.Errorf("%v, %d grips and %d edges at most: not all that may be", had, longest, met)
	}
}

// TestMemory: P2 and P4 of DOC.md: what is handed in stays, nothing behind its length is read or written, what comes out is the caller's, and two calls tell the same.
func TestMemory(t *testing.T) {
	// What is behind the lengths would make edges to 5 first, and then be wrong.
	wholeUp := []int{0, 1, 1, 9, -1}
	whole := grips("+11 +12 -11 +21 -12 +32 -21 +41 -32 +52 +91")
	wasUp, was := slices.Clone(wholeUp), slices.Clone(whole)
	up, l := wholeUp[:3], whole[:8]
	want := edges("12 13 14 24")
	for range 3 {
		if err := tree.Check(up); err != nil {
			t.Fatalf("Check: got %v", err)
		}
		legal(t, "memory", up, l, want)
		refused(t, "wrong grips", up, whole, 10, api.ErrRange)
		refused(t, "wrong tree", wholeUp, l, 0, api.ErrRange)
		e, err := tree.Edges(up, l)
		if err != nil {
			t.Fatal(err)
		}
		clear(e[:cap(e)])
		if !slices.Equal(wholeUp, wasUp) || !slices.Equal(whole, was) {
			t.Fatalf("what was handed in is now %v, %v", wholeUp, whole)
		}
	}
	for _, none := range [][]api.Grip{nil, {}, whole[:0]} {
		legal(t, "no grips", up, none, nil)
	}
	for _, none := range [][]int{nil, {}, wholeUp[:0]} {
		refused(t, "no items", none, l, 0, api.ErrRange)
	}
}
