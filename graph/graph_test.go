package graph_test

import (
	"math"
	"slices"
	"testing"

	"locklane/api"
	"locklane/graph"
	"locklane/history"
	"locklane/odds"
	"locklane/plain"
)

// edges of numbers, two by two.
func edges(n ...int) []api.Edge {
	var e []api.Edge
	for ; len(n) > 1; n = n[2:] {
		e = append(e, api.Edge{From: n[0], To: n[1]})
	}
	return e
}

// many edges: these, again and again, till there are n.
func many(n int, e ...api.Edge) []api.Edge {
	var l []api.Edge
	for i := range n {
		l = append(l, e[i%len(e)])
	}
	return l
}

// with is a list in which one edge is another one.
func with(l []api.Edge, at int, e api.Edge) []api.Edge {
	l = slices.Clone(l)
	l[at] = e
	return l
}

var (
	oneTwo = api.Edge{From: 1, To: 2}
	around = edges(1, 2, 2, 3, 3, 4, 4, 5, 5, 6, 6, 1)
)

// checked: lists, and what Check says of them.
var checked = []struct {
	name string
	l    []api.Edge
	err  api.Errno
}{
	{"nil", nil, api.OK},
	{"no edge", []api.Edge{}, api.OK},
	{"one", edges(1, 2), api.OK},
	{"to itself", edges(6, 6), api.OK},
	{"the same twice", edges(1, 2, 1, 2), api.OK},
	{"all around", around, api.OK},
	{"MaxPaths", many(api.MaxPaths, oneTwo), api.OK},
	{"MaxPaths, all around", many(api.MaxPaths, around...), api.OK},

	{"one more than MaxPaths", many(api.MaxPaths+1, oneTwo), api.ErrFull},
	{"one more, all around", many(api.MaxPaths+1, around...), api.ErrFull},
	{"far more", many(5000, oneTwo), api.ErrFull},
	{"too many, and the first from no deal", with(many(api.MaxPaths+1, oneTwo), 0, api.Edge{From: 0, To: 1}), api.ErrFull},
	{"too many, and the last to no deal", with(many(api.MaxPaths+1, oneTwo), api.MaxPaths, api.Edge{From: 1, To: 7}), api.ErrFull},

	{"no deal at either end", edges(0, 0), api.ErrRange},
	{"from 0", edges(0, 1), api.ErrRange},
	{"to 0", edges(1, 0), api.ErrRange},
	{"from below 0", edges(-1, 1), api.ErrRange},
	{"to below 0", edges(1, -1), api.ErrRange},
	{"from beyond", edges(api.MaxTx+1, 1), api.ErrRange},
	{"to beyond", edges(1, api.MaxTx+1), api.ErrRange},
	{"from the least", edges(math.MinInt, 1), api.ErrRange},
	{"to the least", edges(1, math.MinInt), api.ErrRange},
	{"from the greatest", edges(math.MaxInt, 1), api.ErrRange},
	{"to the greatest", edges(1, math.MaxInt), api.ErrRange},
	{"first wrong", edges(0, 1, 1, 2, 2, 3), api.ErrRange},
	{"last wrong", edges(1, 2, 2, 3, 3, 7), api.ErrRange},
	{"wrong, and around", edges(1, 1, 2, 0), api.ErrRange},
	{"first of MaxPaths", with(many(api.MaxPaths, oneTwo), 0, api.Edge{From: 7, To: 1}), api.ErrRange},
	{"last of MaxPaths", with(many(api.MaxPaths, oneTwo), api.MaxPaths-1, api.Edge{From: 1, To: 0}), api.ErrRange},
}

// TestCheck: G1, Check.
func TestCheck(t *testing.T) {
	for _, k := range checked {
		if err := graph.Check(k.l); plain.Told(err) != k.err {
			t.Errorf("%s: got %v, want %v", k.name, err, k.err)
		}
	}
}

// TestCheckEachEdge holds Check of all small edges against the bounds, written out.
func TestCheckEachEdge(t *testing.T) {
	for from := -2; from <= 9; from++ {
		for to := -2; to <= 9; to++ {
			want := api.ErrRange
			if 1 <= from && from <= 6 && 1 <= to && to <= 6 {
				want = api.OK
			}
			if err := graph.Check(edges(from, to)); plain.Told(err) != want {
				t.Errorf("from %d to %d: got %v, want %v", from, to, err, want)
			}
		}
	}
}

// TestAllCheck: G1: every other call tells Check's error, ahead of its own, and nothing with it.
func TestAllCheck(t *testing.T) {
	for _, k := range checked {
		if k.err == api.OK {
			continue
		}
		if o, err := graph.Order(k.l); plain.Told(err) != k.err || len(o) > 0 {
			t.Errorf("Order, %s: got %v %v, want %v", k.name, o, err, k.err)
		}
		if r, err := graph.Ring(k.l); plain.Told(err) != k.err || len(r) > 0 {
			t.Errorf("Ring, %s: got %v %v, want %v", k.name, r, err, k.err)
		}
		for _, a := range []int{1, 0, math.MinInt, math.MaxInt} {
			for _, b := range []int{2, 1, 7, -1} {
				if is, err := graph.Reach(k.l, a, b); plain.Told(err) != k.err || is {
					t.Errorf("Reach, %s, from %d to %d: got %v %v, want %v", k.name, a, b, is, err, k.err)
				}
			}
		}
	}
}

// TestOrder: G1, Order.
func TestOrder(t *testing.T) {
	for _, k := range []struct {
		l    []api.Edge
		want []int
		err  api.Errno
	}{
		{nil, nil, api.OK},
		{[]api.Edge{}, nil, api.OK},
		{edges(1, 2), []int{1, 2}, api.OK},
		{edges(2, 1), []int{2, 1}, api.OK},
		{edges(6, 5), []int{6, 5}, api.OK},
		{edges(2, 1, 2, 1), []int{2, 1}, api.OK},
		{many(api.MaxPaths, api.Edge{From: 6, To: 1}), []int{6, 1}, api.OK},
		{edges(6, 5, 5, 4, 4, 3, 3, 2, 2, 1), []int{6, 5, 4, 3, 2, 1}, api.OK},
		{edges(2, 1, 3, 2, 4, 3, 5, 4, 6, 5), []int{6, 5, 4, 3, 2, 1}, api.OK},
		{many(api.MaxPaths, edges(6, 5, 5, 4, 4, 3, 3, 2, 2, 1)...), []int{6, 5, 4, 3, 2, 1}, api.OK},

		// Several could be next.
		{edges(1, 6, 1, 3), []int{1, 3, 6}, api.OK},
		{edges(6, 1, 5, 1), []int{5, 6, 1}, api.OK},
		{edges(5, 6, 3, 4, 1, 2), []int{1, 2, 3, 4, 5, 6}, api.OK},
		{edges(2, 1, 4, 3, 6, 5), []int{2, 1, 4, 3, 6, 5}, api.OK},
		{edges(4, 3, 6, 3, 4, 5), []int{4, 5, 6, 3}, api.OK},
		// Who becomes free goes ahead of greater ones that were free before.
		{edges(3, 1, 3, 2, 4, 5), []int{3, 1, 2, 4, 5}, api.OK},
		{edges(5, 1, 2, 6), []int{2, 5, 1, 6}, api.OK},
		// Each behind all that lead to it, not just behind one of them.
		{edges(1, 3, 2, 3, 6, 3, 3, 4), []int{1, 2, 6, 3, 4}, api.OK},

		{edges(1, 1), nil, api.ErrCycle},
		{edges(1, 2, 6, 6), nil, api.ErrCycle},
		{edges(1, 2, 2, 1), nil, api.ErrCycle},
		{edges(1, 2, 2, 3, 3, 2), nil, api.ErrCycle},
		{edges(4, 5, 5, 4, 5, 6), nil, api.ErrCycle},
		{edges(1, 2, 4, 5, 5, 6, 6, 4), nil, api.ErrCycle},
		{around, nil, api.ErrCycle},
		{many(api.MaxPaths, around...), nil, api.ErrCycle},
		{with(many(api.MaxPaths, oneTwo), api.MaxPaths-1, api.Edge{From: 2, To: 1}), nil, api.ErrCycle},
	} {
		got, err := graph.Order(k.l)
		if plain.Told(err) != k.err || !slices.Equal(got, k.want) {
			t.Errorf("%v: got %v %v, want %v %v", k.l, got, err, k.want, k.err)
		}
	}
}

// TestRing: G1, Ring.
func TestRing(t *testing.T) {
	for _, k := range []struct {
		l    []api.Edge
		want []int
		err  api.Errno
	}{
		{nil, nil, api.ErrNone},
		{[]api.Edge{}, nil, api.ErrNone},
		{edges(1, 2), nil, api.ErrNone},
		{edges(1, 2, 1, 2), nil, api.ErrNone},
		{edges(1, 2, 1, 3, 2, 3), nil, api.ErrNone},
		{edges(6, 5, 5, 4, 4, 3, 3, 2, 2, 1, 6, 1), nil, api.ErrNone},
		{many(api.MaxPaths, oneTwo), nil, api.ErrNone},

		{edges(1, 1), []int{1}, api.OK},
		{edges(6, 6), []int{6}, api.OK},
		{edges(6, 6, 6, 6), []int{6}, api.OK},
		{edges(1, 2, 2, 1), []int{1, 2}, api.OK},
		{edges(2, 1, 1, 2), []int{1, 2}, api.OK},
		{edges(6, 5, 5, 6), []int{5, 6}, api.OK},
		{edges(3, 2, 2, 1, 1, 3), []int{1, 3, 2}, api.OK},
		{around, []int{1, 2, 3, 4, 5, 6}, api.OK},
		{edges(6, 5, 5, 4, 4, 3, 3, 2, 2, 1, 1, 6), []int{1, 6, 5, 4, 3, 2}, api.OK},
		{edges(1, 4, 4, 2, 2, 6, 6, 3, 3, 5, 5, 1), []int{1, 4, 2, 6, 3, 5}, api.OK},
		{many(api.MaxPaths, around...), []int{1, 2, 3, 4, 5, 6}, api.OK},
		{with(many(api.MaxPaths, oneTwo), api.MaxPaths-1, api.Edge{From: 2, To: 1}), []int{1, 2}, api.OK},
		// Who only leads to it, or away from it, is not in it.
		{edges(1, 3, 3, 4, 4, 3, 4, 2), []int{3, 4}, api.OK},

		// The fewest, whatever their numbers.
		{edges(1, 2, 2, 1, 6, 6), []int{6}, api.OK},
		{edges(1, 2, 2, 3, 3, 1, 5, 6, 6, 5), []int{5, 6}, api.OK},
		{append(edges(6, 4), around...), []int{4, 5, 6}, api.OK},
		{edges(1, 2, 2, 3, 3, 4, 4, 1, 3, 1), []int{1, 2, 3}, api.OK},

		// Several that are as short: the first by numbers, wherever it stands.
		{edges(5, 5, 2, 2, 6, 6), []int{2}, api.OK},
		{edges(5, 6, 6, 5, 3, 4, 4, 3), []int{3, 4}, api.OK},
		{edges(1, 6, 6, 1, 2, 3, 3, 2), []int{1, 6}, api.OK},
		{edges(1, 6, 6, 1, 1, 3, 3, 1), []int{1, 3}, api.OK},
		{edges(4, 5, 5, 6, 6, 4, 1, 3, 3, 2, 2, 1), []int{1, 3, 2}, api.OK},
		{edges(1, 2, 2, 3, 3, 1, 2, 1, 1, 3, 3, 2), []int{1, 2}, api.OK},
		{edges(1, 2, 2, 6, 6, 1, 2, 4, 4, 1, 1, 5, 5, 3, 3, 1), []int{1, 2, 4}, api.OK},
	} {
		got, err := graph.Ring(k.l)
		if plain.Told(err) != k.err || !slices.Equal(got, k.want) {
			t.Errorf("%v: got %v %v, want %v %v", k.l, got, err, k.want, k.err)
		}
	}
}

// TestReach: G1, Reach.
func TestReach(t *testing.T) {
	down := edges(6, 5, 5, 4, 4, 3, 3, 2, 2, 1)
	for _, k := range []struct {
		l    []api.Edge
		a, b int
		want bool
		err  api.Errno
	}{
		{nil, 1, 2, false, api.OK},
		{nil, 6, 6, false, api.OK},
		{edges(1, 2), 1, 2, true, api.OK},
		{edges(1, 2), 2, 1, false, api.OK},
		{edges(1, 2, 1, 2), 1, 2, true, api.OK},
		{edges(1, 2, 2, 3), 1, 3, true, api.OK},
		{edges(2, 3, 1, 2), 1, 3, true, api.OK},
		{edges(1, 2, 3, 4), 1, 4, false, api.OK},
		{edges(1, 2, 1, 3), 2, 3, false, api.OK},
		{edges(1, 3, 2, 3), 1, 2, false, api.OK},
		{down, 6, 1, true, api.OK},
		{down, 1, 6, false, api.OK},
		{down, 3, 4, false, api.OK},
		{many(api.MaxPaths, down...), 6, 1, true, api.OK},
		{with(many(api.MaxPaths, oneTwo), api.MaxPaths-1, api.Edge{From: 2, To: 6}), 1, 6, true, api.OK},

		// A deal itself: only by a way around.
		{edges(1, 2), 1, 1, false, api.OK},
		{edges(1, 2), 2, 2, false, api.OK},
		{edges(4, 4), 4, 4, true, api.OK},
		{edges(4, 4, 4, 5), 5, 5, false, api.OK},
		{edges(1, 2, 2, 1), 1, 1, true, api.OK},
		{edges(1, 2, 2, 1), 2, 2, true, api.OK},
		{edges(1, 2, 2, 3, 3, 2), 1, 1, false, api.OK},
		{around, 1, 1, true, api.OK},
		{around, 6, 6, true, api.OK},
		{around, 2, 1, true, api.OK},
		// Deals that no edge names are deals.
		{edges(1, 2), 3, 2, false, api.OK},
		{edges(1, 2), 1, 6, false, api.OK},

		{edges(1, 2), 0, 2, false, api.ErrRange},
		{edges(1, 2), 1, 0, false, api.ErrRange},
		{edges(1, 2), -1, 2, false, api.ErrRange},
		{edges(1, 2), 1, -1, false, api.ErrRange},
		{edges(1, 2), 7, 2, false, api.ErrRange},
		{edges(1, 2), 1, 7, false, api.ErrRange},
		{edges(1, 2), math.MinInt, 2, false, api.ErrRange},
		{edges(1, 2), 1, math.MinInt, false, api.ErrRange},
		{edges(1, 2), math.MaxInt, 2, false, api.ErrRange},
		{edges(1, 2), 1, math.MaxInt, false, api.ErrRange},
		{edges(1, 2), 0, 7, false, api.ErrRange},
		{nil, 0, 0, false, api.ErrRange},
		{around, 7, 7, false, api.ErrRange},
	} {
		got, err := graph.Reach(k.l, k.a, k.b)
		if got != k.want || plain.Told(err) != k.err {
			t.Errorf("%v from %d to %d: got %v %v, want %v %v", k.l, k.a, k.b, got, err, k.want, k.err)
		}
	}
}

// lists of deals without a deal twice, of at most n of them: the shorter ones first, then by numbers.
func lists(n int) [][]int {
	all := [][]int{nil}
	for i := 0; i < len(all); i++ {
		for tx := 1; tx <= n; tx++ {
			if !slices.Contains(all[i], tx) {
				all = append(all, append(slices.Clone(all[i]), tx))
			}
		}
	}
	return all
}

// leads tells whether there is such an edge.
func leads(l []api.Edge, from, to int) bool {
	return slices.Contains(l, api.Edge{From: from, To: to})
}

// isOrder tells whether a list without a deal twice has all that edges name, none else, and all edges go forward in it.
func isOrder(l []api.Edge, order []int) bool {
	for _, e := range l {
		from, to := slices.Index(order, e.From), slices.Index(order, e.To)
		if from < 0 || to < 0 || from >= to {
			return false
		}
	}
	for _, tx := range order {
		if !slices.ContainsFunc(l, func(e api.Edge) bool { return e.From == tx || e.To == tx }) {
			return false
		}
	}
	return true
}

// isRing tells whether edges lead around a list.
func isRing(l []api.Edge, ring []int) bool {
	for i, tx := range ring {
		if !leads(l, tx, ring[(i+1)%len(ring)]) {
			return false
		}
	}
	return len(ring) > 0
}

// isReached tells whether edges lead along a list of deals between two.
func isReached(l []api.Edge, a, b int, all [][]int) bool {
	return slices.ContainsFunc(all, func(between []int) bool {
		way := append(append([]int{a}, between...), b)
		for i := range len(way) - 1 {
			if !leads(l, way[i], way[i+1]) {
				return false
			}
		}
		return true
	})
}

// byWords holds what is told of edges against the promise's words, by all lists of deals.
func byWords(t *testing.T, l []api.Edge, all [][]int) {
	t.Helper()
	first := func(so func([]api.Edge, []int) bool) ([]int, bool) {
		at := slices.IndexFunc(all, func(deals []int) bool { return so(l, deals) })
		if at < 0 {
			return nil, false
		}
		return all[at], true
	}
	wantErr := api.OK
	order, ok := first(isOrder)
	if !ok {
		wantErr = api.ErrCycle
	}
	if got, err := graph.Order(l); plain.Told(err) != wantErr || !slices.Equal(got, order) {
		t.Errorf("Order of %v: got %v %v, want %v %v", l, got, err, order, wantErr)
	}
	ring, around := first(isRing)
	wantErr = api.OK
	if !around {
		wantErr = api.ErrNone
	}
	if got, err := graph.Ring(l); plain.Told(err) != wantErr || !slices.Equal(got, ring) {
		t.Errorf("Ring of %v: got %v %v, want %v %v", l, got, err, ring, wantErr)
	}
	if ok == around {
		t.Errorf("%v: an order: %v, a ring: %v", l, ok, around)
	}
}

// TestSmall: G1: all graphs of three deals.
func TestSmall(t *testing.T) {
	all := lists(3)
	for bits := range 1 << 9 {
		var l []api.Edge
		for i := range 9 {
			if bits>>i&1 == 1 {
				l = append(l, api.Edge{From: i/3 + 1, To: i%3 + 1})
			}
		}
		byWords(t, l, all)
		for a := 1; a <= 3; a++ {
			for b := 1; b <= 3; b++ {
				want := isReached(l, a, b, all)
				if got, err := graph.Reach(l, a, b); err != nil || got != want {
					t.Errorf("%v from %d to %d: got %v %v, want %v", l, a, b, got, err, want)
				}
			}
		}
	}
}

// TestGreat: G1: graphs of six deals, by a rule that mixes numbers.
func TestGreat(t *testing.T) {
	all := lists(api.MaxTx)
	mixed := uint64(1)
	roll := func(n int) int {
		mixed = mixed*6364136223846793005 + 1442695040888963407
		return int(mixed>>33) % n
	}
	for i := range 600 {
		var l []api.Edge
		for range i % 16 {
			l = append(l, api.Edge{From: roll(6) + 1, To: roll(6) + 1})
		}
		byWords(t, l, all)
		a, b := roll(6)+1, roll(6)+1
		want := isReached(l, a, b, all)
		if got, err := graph.Reach(l, a, b); err != nil || got != want {
			t.Errorf("%v from %d to %d: got %v %v, want %v", l, a, b, got, err, want)
		}
	}
}

// TestForward: G1: graphs whose edges all go along one list of the six deals have an order, for each such list.
func TestForward(t *testing.T) {
	all := lists(api.MaxTx)
	for _, deals := range all {
		if len(deals) < 2 {
			continue
		}
		var chain, full []api.Edge
		for i, from := range deals[:len(deals)-1] {
			chain = append(chain, api.Edge{From: from, To: deals[i+1]})
			for _, to := range deals[i+1:] {
				full = append(full, api.Edge{From: from, To: to})
			}
		}
		for _, l := range [][]api.Edge{chain, full} {
			if got, err := graph.Order(l); err != nil || !slices.Equal(got, deals) {
				t.Errorf("Order of %v: got %v %v, want %v", l, got, err, deals)
			}
			if got, err := graph.Ring(l); plain.Told(err) != api.ErrNone || len(got) > 0 {
				t.Errorf("Ring of %v: got %v %v, want %v", l, got, err, api.ErrNone)
			}
		}
		last := deals[len(deals)-1]
		ring := append(slices.Clone(chain), api.Edge{From: last, To: deals[0]})
		least := slices.Index(deals, slices.Min(deals))
		want := slices.Concat(deals[least:], deals[:least])
		if got, err := graph.Ring(ring); err != nil || !slices.Equal(got, want) {
			t.Errorf("Ring of %v: got %v %v, want %v", ring, got, err, want)
		}
	}
}

// TestOfHistories: G1 of what odds.Edges gives.
func TestOfHistories(t *testing.T) {
	for _, k := range []struct {
		text        string
		order, ring []int
	}{
		{"", nil, nil},
		{"w2(a) r1(a) c1 c2", []int{2, 1}, nil},
		{"r1(a) w2(b) w2(a) r1(b) c2 c1", nil, []int{1, 2}},
		{"w1(a) r3(a) w3(b) c3 w2(b) c1 c2", []int{1, 3, 2}, nil},
	} {
		h, err := history.Parse(k.text)
		if err != nil {
			t.Fatal(err)
		}
		l, err := odds.Edges(h)
		if err != nil {
			t.Fatal(err)
		}
		if got, _ := graph.Order(l); !slices.Equal(got, k.order) {
			t.Errorf("%q: order %v, want %v", k.text, got, k.order)
		}
		if got, _ := graph.Ring(l); !slices.Equal(got, k.ring) {
			t.Errorf("%q: ring %v, want %v", k.text, got, k.ring)
		}
	}
}

// TestMemory: P2 and P4 of DOC.md: what is handed in stays, nothing behind its length is read or written, and what comes out is fresh, call by call.
func TestMemory(t *testing.T) {
	whole := edges(4, 1, 1, 3, 3, 5, 5, 4, -7, 99, 6, 6)
	was := slices.Clone(whole)
	for range 2 {
		if err := graph.Check(whole[:4]); err != nil {
			t.Fatalf("Check: got %v", err)
		}
		order, err := graph.Order(whole[:3])
		if err != nil || !slices.Equal(order, []int{4, 1, 3, 5}) {
			t.Fatalf("Order: got %v %v", order, err)
		}
		ring, err := graph.Ring(whole[:4])
		if err != nil || !slices.Equal(ring, []int{1, 3, 5, 4}) {
			t.Fatalf("Ring: got %v %v", ring, err)
		}
		if is, err := graph.Reach(whole[:3], 5, 4); err != nil || is {
			t.Fatalf("Reach: got %v %v", is, err)
		}
		clear(order[:cap(order)])
		if !slices.Equal(ring, []int{1, 3, 5, 4}) {
			t.Fatalf("what Order gave is not its own: %v", ring)
		}
		clear(ring[:cap(ring)])
		if !slices.Equal(whole, was) {
			t.Fatalf("what was handed in is now %v", whole)
		}
	}
}
