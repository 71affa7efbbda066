package serial_test

import (
	"math"
	"slices"
	"testing"

	"locklane/api"
	"locklane/graph"
	"locklane/history"
	"locklane/odds"
	"locklane/plain"
	"locklane/serial"
)

// ops of a text that is right.
func ops(t *testing.T, text string) []api.Op {
	t.Helper()
	h, err := history.Parse(text)
	if err != nil {
		t.Fatalf("%q: %v", text, err)
	}
	return h
}

func read(tx, item int) api.Op  { return api.Op{Tx: tx, What: api.Read, Item: item} }
func write(tx, item int) api.Op { return api.Op{Tx: tx, What: api.Write, Item: item} }
func commit(tx int) api.Op      { return api.Op{Tx: tx, What: api.Commit} }
func abort(tx int) api.Op       { return api.Op{Tx: tx, What: api.Abort} }

// around is a history of n ops whose deals 1 and 2 commit, each ahead of the other one.
func around(n int) []api.Op {
	h := []api.Op{write(1, 1), write(2, 1), write(1, 1), commit(1), commit(2)}
	for len(h) < n {
		h = append(h, read(3, 1))
	}
	return h[:n]
}

// with is around, and these ops behind it.
func with(more ...api.Op) []api.Op { return append(around(5), more...) }

// but is around, of n ops, of which one is another op.
func but(n, at int, o api.Op) []api.Op {
	h := around(n)
	h[at] = o
	return h
}

// wrong histories, and what Check says of them.
var wrong = []struct {
	name string
	h    []api.Op
	err  api.Errno
}{
	{"one more than MaxOps", around(api.MaxOps + 1), api.ErrFull},
	{"far more", around(1000), api.ErrFull},
	{"too many, and one of no deal", but(api.MaxOps+1, 0, read(0, 1)), api.ErrFull},
	{"too many, and one behind its commit", but(api.MaxOps+1, api.MaxOps, read(1, 1)), api.ErrFull},
	{"first of MaxOps", but(api.MaxOps, 0, read(7, 1)), api.ErrRange},
	{"last of MaxOps", but(api.MaxOps, api.MaxOps-1, read(1, 0)), api.ErrRange},
	{"alone, of no deal", []api.Op{commit(0)}, api.ErrRange},
	{"deal 0", with(read(0, 1)), api.ErrRange},
	{"deal below 0", with(read(-1, 1)), api.ErrRange},
	{"deal beyond", with(commit(api.MaxTx + 1)), api.ErrRange},
	{"greatest deal", with(commit(math.MaxInt)), api.ErrRange},
	{"least deal", with(commit(math.MinInt)), api.ErrRange},
	{"what 0", with(api.Op{Tx: 3, Item: 1}), api.ErrRange},
	{"what below 0", with(api.Op{Tx: 3, What: -1, Item: 1}), api.ErrRange},
	{"what beyond", with(api.Op{Tx: 3, What: api.Abort + 1}), api.ErrRange},
	{"item 0", with(read(3, 0)), api.ErrRange},
	{"item below 0", with(write(3, -1)), api.ErrRange},
	{"item beyond", with(write(3, api.MaxItem+1)), api.ErrRange},
	{"commit of an item", with(api.Op{Tx: 3, What: api.Commit, Item: 1}), api.ErrRange},
	{"abort of an item", with(api.Op{Tx: 3, What: api.Abort, Item: 1}), api.ErrRange},
	{"behind its commit", with(read(1, 1)), api.ErrState},
	{"behind its abort", with(abort(3), read(3, 1)), api.ErrState},
	{"commit twice", with(commit(2)), api.ErrState},
	{"abort, then commit", with(abort(3), commit(3)), api.ErrState},
	{"alone, commit twice", []api.Op{commit(1), commit(1)}, api.ErrState},
	{"range, then state", with(read(0, 1), read(1, 1)), api.ErrRange},
	{"state, then range", with(read(1, 1), read(0, 1)), api.ErrState},
}

// TestWrong: S1: all calls tell Check's error, ahead of ErrShape and ErrCycle, and nothing with it.
func TestWrong(t *testing.T) {
	orders := [][]int{nil, {1}, {1, 2}, {2, 1}, {1, 2, 3}, {1, 1}, {0}, {7, -1}, {math.MinInt, math.MaxInt}, make([]int, 1000)}
	for _, k := range wrong {
		for _, order := range orders {
			if s, err := serial.Serial(k.h, order); plain.Told(err) != k.err || len(s) > 0 {
				t.Errorf("Serial, %s, along %v: got %v %v, want %v", k.name, order, s, err, k.err)
			}
		}
		if o, err := serial.Order(k.h); plain.Told(err) != k.err || len(o) > 0 {
			t.Errorf("Order, %s: got %v %v, want %v", k.name, o, err, k.err)
		}
		if is, err := serial.Is(k.h); plain.Told(err) != k.err || is {
			t.Errorf("Is, %s: got %v %v, want %v", k.name, is, err, k.err)
		}
	}
	if o, err := serial.Order(around(5)); plain.Told(err) != api.ErrCycle || len(o) > 0 {
		t.Errorf("Order, but for what is wrong: got %v %v, want %v", o, err, api.ErrCycle)
	}
}

// TestSerial: S1, Serial along orders that name each deal that commits once.
func TestSerial(t *testing.T) {
	for _, k := range []struct {
		text  string
		order []int
		want  string
	}{
		{"", nil, ""},
		{"", []int{}, ""},
		// Nobody commits.
		{"w1(a) w2(a)", nil, ""},
		{"w1(a) w2(a) a1 a2", nil, ""},
		{"w1(a) a1 w2(a)", []int{}, ""},

		{"c1", []int{1}, "c1"},
		{"w6(f) c6", []int{6}, "w6(f) c6"},
		{"c1 c2", []int{1, 2}, "c1 c2"},
		{"c1 c2", []int{2, 1}, "c2 c1"},
		{"w1(a) r2(b) w1(b) c2 c1", []int{1, 2}, "w1(a) w1(b) c1 r2(b) c2"},
		{"w1(a) r2(b) w1(b) c2 c1", []int{2, 1}, "r2(b) c2 w1(a) w1(b) c1"},
		// The order is taken as it is, though what is at odds changes places by it.
		{"w1(a) w2(a) w1(a) c1 c2", []int{1, 2}, "w1(a) w1(a) c1 w2(a) c2"},
		{"w1(a) w2(a) w1(a) c1 c2", []int{2, 1}, "w2(a) c2 w1(a) w1(a) c1"},
		// Who aborts, or does not end, is left out.
		{"w1(a) w2(a) c1 a2", []int{1}, "w1(a) c1"},
		{"w1(a) w2(a) c1", []int{1}, "w1(a) c1"},
		{"w1(a) w2(a) r3(a) c2 w4(b) a3 c4", []int{4, 2}, "w4(b) c4 w2(a) c2"},
		// A deal that does the same again does so here.
		{"r1(a) w2(a) r1(a) r1(a) c2 c1", []int{2, 1}, "w2(a) c2 r1(a) r1(a) r1(a) c1"},
		{"c6 c5 c4 c3 c2 c1", []int{3, 1, 6, 2, 5, 4}, "c3 c1 c6 c2 c5 c4"},
		{"w1(a) w2(b) w3(c) w4(d) w5(e) w6(f) c1 c2 c3 c4 c5 c6", []int{6, 5, 4, 3, 2, 1},
			"w6(f) c6 w5(e) c5 w4(d) c4 w3(c) c3 w2(b) c2 w1(a) c1"},
	} {
		got, err := serial.Serial(ops(t, k.text), k.order)
		if err != nil || !slices.Equal(got, ops(t, k.want)) {
			t.Errorf("%q along %v: got %v %v, want %q", k.text, k.order, got, err, k.want)
		}
	}
}

// TestSerialShape: S1, Serial along orders that do not name each deal that commits once.
func TestSerialShape(t *testing.T) {
	const text = "w1(a) w2(a) r3(a) w4(b) c2 a3 c4 c1" // 1, 2 and 4 commit, 3 aborts
	for _, k := range []struct {
		text  string
		order []int
	}{
		// No ops, and nobody who commits.
		{"", []int{1}},
		{"", []int{0}},
		{"w1(a) a1", []int{1}},
		{"w1(a)", []int{1}},
		// One is left out.
		{text, nil},
		{text, []int{}},
		{text, []int{1, 2}},
		{text, []int{4, 2}},
		{"c1", nil},
		// One is named twice.
		{text, []int{1, 2, 4, 4}},
		{text, []int{1, 1, 2, 4}},
		{text, []int{1, 2, 2}},
		{text, []int{4, 1, 4}},
		{"c1", []int{1, 1}},
		// One does not commit: it aborts, does not end, or has no op.
		{text, []int{1, 2, 3, 4}},
		{text, []int{1, 2, 3}},
		{text, []int{3, 2, 4}},
		{text, []int{1, 2, 4, 5}},
		{text, []int{1, 2, 5}},
		{"w1(a) c1 w2(a)", []int{1, 2}},
		{"w1(a) c1 w2(a)", []int{2}},
		// One is no deal.
		{text, []int{0, 1, 2, 4}},
		{text, []int{1, 2, 0}},
		{text, []int{1, 2, 7}},
		{text, []int{1, 2, 4, 7}},
		{text, []int{1, 2, -4}},
		{text, []int{math.MinInt, 2, 4}},
		{text, []int{1, 2, math.MaxInt}},
		{"c1 c2 c3 c4 c5 c6", []int{1, 2, 3, 4, 5, 7}},
		{"c1 c2 c3 c4 c5 c6", []int{1, 2, 3, 4, 5, 6, 7}},
		{"c1 c2 c3 c4 c5 c6", []int{0, 1, 2, 3, 4, 5, 6}},
		// Numbers that would be right, were only some of their bits looked at, or their sum.
		{text, []int{1, 2, 4 + 1<<32}},
		{text, []int{0, 3, 4}},
		{text, []int{1, 3, 3}},
		{text, make([]int, 100000)},
	} {
		got, err := serial.Serial(ops(t, k.text), k.order)
		if plain.Told(err) != api.ErrShape || len(got) > 0 {
			t.Errorf("%q along %v: got %v %v, want %v", k.text, k.order, got, err, api.ErrShape)
		}
	}
}

// TestOrder: S1, Order.
func TestOrder(t *testing.T) {
	for _, k := range []struct {
		text string
		want []int
		err  api.Errno
	}{
		{"", nil, api.OK},
		// Nobody commits, and some do.
		{"w1(a) w2(a) w1(a)", nil, api.OK},
		{"w1(a) w2(a) w1(a) a1 a2", nil, api.OK},
		{"w2(a) w1(a) c2 a1", []int{2}, api.OK},
		{"w2(a) w1(a) c1", []int{1}, api.OK},

		{"c1", []int{1}, api.OK},
		{"w6(f) r6(f) w6(f) c6", []int{6}, api.OK},
		{"w1(a) r2(a) c1 c2", []int{1, 2}, api.OK},
		{"w2(a) r1(a) c1 c2", []int{2, 1}, api.OK},
		{"r2(a) w1(a) c1 c2", []int{2, 1}, api.OK},
		{"w2(a) w1(a) c1 c2", []int{2, 1}, api.OK},
		{"w6(a) w5(a) w4(a) w3(a) w2(a) w1(a) c1 c2 c3 c4 c5 c6", []int{6, 5, 4, 3, 2, 1}, api.OK},
		{"w2(a) r1(a) r2(b) w1(b) c1 c2", []int{2, 1}, api.OK},
		// Who commits first need not be first.
		{"r2(a) w1(a) c1 r2(b) c2", []int{2, 1}, api.OK},

		// They share no item, or only read it.
		{"c2 c1", []int{1, 2}, api.OK},
		{"c6 c5 c4 c3 c2 c1", []int{1, 2, 3, 4, 5, 6}, api.OK},
		{"w3(c) c3 w2(b) c2 w1(a) c1", []int{1, 2, 3}, api.OK},
		{"r3(a) c3 r2(a) c2 r1(a) c1", []int{1, 2, 3}, api.OK},

		// Several could be next.
		{"w3(a) w3(b) r2(a) r1(b) c1 c2 c3", []int{3, 1, 2}, api.OK},
		{"r3(a) r2(a) w1(a) c1 c2 c3", []int{2, 3, 1}, api.OK},
		{"w6(a) r5(a) w4(b) r3(b) w2(c) r1(c) c1 c2 c3 c4 c5 c6", []int{2, 1, 4, 3, 6, 5}, api.OK},
		// Who becomes free goes ahead of greater ones that were free before.
		{"w3(a) r1(a) r2(a) w4(b) r5(b) c1 c2 c3 c4 c5", []int{3, 1, 2, 4, 5}, api.OK},
		// Who shares no item stands where it is the least, between the others too.
		{"w2(a) r3(a) c1 c2 c3", []int{1, 2, 3}, api.OK},
		{"w1(a) r3(a) c2 c1 c3", []int{1, 2, 3}, api.OK},
		{"w3(a) r1(a) c2 c1 c3", []int{2, 3, 1}, api.OK},
		{"w2(a) r1(a) c3 c1 c2", []int{2, 1, 3}, api.OK},
		{"w5(a) r1(a) w1(b) r3(b) c6 c4 c2 c1 c3 c5", []int{2, 4, 5, 1, 3, 6}, api.OK},

		// It goes around.
		{"w1(a) w2(a) w1(a) c1 c2", nil, api.ErrCycle},
		{"r1(a) w2(a) r1(a) c1 c2", nil, api.ErrCycle},
		{"r1(a) w2(b) w2(a) r1(b) c2 c1", nil, api.ErrCycle},
		{"r1(a) r2(b) r3(c) w1(b) w2(c) w3(a) c1 c2 c3", nil, api.ErrCycle},
		{"c1 w4(a) w5(a) w4(a) c4 c5", nil, api.ErrCycle},
		{"w1(a) w2(a) c1 w5(b) w6(b) w5(b) c2 c5 c6", nil, api.ErrCycle},
		{"r1(a) r2(b) r3(c) r4(d) r5(e) r6(f) w1(b) w2(c) w3(d) w4(e) w5(f) w6(a) c1 c2 c3 c4 c5 c6", nil, api.ErrCycle},
		// Not, if one in the ring does not commit.
		{"w1(a) w2(a) w1(a) c1 a2", []int{1}, api.OK},
		{"w1(a) w2(a) w1(a) c2", []int{2}, api.OK},
		{"r1(a) r2(b) r3(c) w1(b) w2(c) w3(a) c1 c2 a3", []int{2, 1}, api.OK},
		{"r1(a) r2(b) r3(c) w1(b) w2(c) w3(a) c3 c2", []int{3, 2}, api.OK},
		// Who does not commit leads nobody to anybody.
		{"w3(a) r2(a) w2(b) r1(b) c1 a2 c3", []int{1, 3}, api.OK},
		{"w3(a) r2(a) w2(b) r1(b) c1 c2 c3", []int{3, 2, 1}, api.OK},
	} {
		got, err := serial.Order(ops(t, k.text))
		if plain.Told(err) != k.err || !slices.Equal(got, k.want) {
			t.Errorf("%q: got %v %v, want %v %v", k.text, got, err, k.want, k.err)
		}
	}
}

// TestIs: S1, Is.
func TestIs(t *testing.T) {
	for _, k := range []struct {
		text string
		want bool
	}{
		{"", true},
		// Nobody commits.
		{"w1(a) w2(a) w1(a) w2(a)", true},
		{"w1(a) w2(a) w1(a) a1 a2", true},

		{"c1", true},
		{"c2 c1", true},
		{"w1(a) r1(b) c1", true},
		{"w1(a) c1 w2(a) c2", true},
		{"w2(a) c2 w1(a) c1", true},
		{"w3(a) w3(b) c3 c1 r2(a) c2", true},
		{"c6 c5 c4 c3 c2 c1", true},
		// In two pieces, or more.
		{"w1(a) c2 c1", false},
		{"w1(a) w2(b) c1 c2", false},
		{"w1(a) w2(b) c2 c1", false},
		{"w1(a) w2(a) w1(a) c1 c2", false},
		{"c1 w2(a) c3 c2", false},
		{"w1(a) c1 w2(a) c2 w5(a) w6(b) c6 c5", false},
		{"c1 c2 c3 c4 w5(a) c6 c5", false},
		// It has an order, but is none.
		{"r1(a) r2(a) r1(a) c1 c2", false},
		// Only a deal that does not commit stands between.
		{"w1(a) w2(a) c1", true},
		{"w1(a) w2(a) c1 a2", true},
		{"w1(a) a2 c1", true},
		{"w2(a) w1(a) w2(a) c1 w2(a)", true},
		{"w1(a) w3(a) w2(a) w1(b) c1 a2 w3(b)", true},
		{"w1(a) w3(a) c1 w2(b) a3 c2", true},
		// One that does not, and one that does.
		{"w1(a) w3(a) w2(a) c1 a3 c2", false},
		{"w1(a) w3(a) c2 w3(b) c1", false},
	} {
		if got, err := serial.Is(ops(t, k.text)); err != nil || got != k.want {
			t.Errorf("%q: got %v %v, want %v", k.text, got, err, k.want)
		}
	}
}

// TestMany: S1 at histories of MaxOps ops: six deals one behind the other, and in turn.
func TestMany(t *testing.T) {
	var pieces, turns []api.Op
	for i := range api.MaxOps - api.MaxTx {
		turns = append(turns, read(i%api.MaxTx+1, 1))
	}
	for tx := api.MaxTx; tx >= 1; tx-- {
		for _, o := range turns {
			if o.Tx == tx {
				pieces = append(pieces, write(tx, api.MaxItem))
			}
		}
		pieces = append(pieces, commit(tx))
	}
	for tx := 1; tx <= api.MaxTx; tx++ {
		turns = append(turns, commit(tx))
	}
	down, up := []int{6, 5, 4, 3, 2, 1}, []int{1, 2, 3, 4, 5, 6}
	for _, k := range []struct {
		h     []api.Op
		order []int
		is    bool
	}{{pieces, down, true}, {turns, up, false}} {
		if len(k.h) != api.MaxOps {
			t.Fatalf("%d ops", len(k.h))
		}
		if o, err := serial.Order(k.h); err != nil || !slices.Equal(o, k.order) {
			t.Errorf("Order of %v: got %v %v, want %v", k.h, o, err, k.order)
		}
		if is, err := serial.Is(k.h); err != nil || is != k.is {
			t.Errorf("Is of %v: got %v %v, want %v", k.h, is, err, k.is)
		}
	}
	if s, err := serial.Serial(pieces, down); err != nil || !slices.Equal(s, pieces) {
		t.Errorf("Serial: got %v %v, want %v", s, err, pieces)
	}
	slices.SortStableFunc(pieces, func(o, p api.Op) int { return o.Tx - p.Tx })
	if s, err := serial.Serial(pieces, up); err != nil || !slices.Equal(s, pieces) {
		t.Errorf("Serial: got %v %v, want %v", s, err, pieces)
	}
}

// orders of deals that are given rising, the first by numbers first.
func orders(deals []int) [][]int {
	if len(deals) == 0 {
		return [][]int{nil}
	}
	var all [][]int
	for i, tx := range deals {
		for _, rest := range orders(slices.Delete(slices.Clone(deals), i, i+1)) {
			all = append(all, append([]int{tx}, rest...))
		}
	}
	return all
}

// done is what deals that commit do, and which they are, told without the program.
func done(h []api.Op) (kept []api.Op, deals []int) {
	for tx := 1; tx <= api.MaxTx; tx++ {
		if slices.Contains(h, commit(tx)) {
			deals = append(deals, tx)
		}
	}
	for _, o := range h {
		if slices.Contains(deals, o.Tx) {
			kept = append(kept, o)
		}
	}
	return kept, deals
}

// laid are ops, deal by deal, along an order.
func laid(h []api.Op, order []int) (l []api.Op) {
	for _, tx := range order {
		for _, o := range h {
			if o.Tx == tx {
				l = append(l, o)
			}
		}
	}
	return l
}

// inOnePiece tells whether there is nobody else between the first and the last op of each deal.
func inOnePiece(h []api.Op) bool {
	for i, o := range h {
		for j := i + 1; j < len(h); j++ {
			if h[j].Tx != o.Tx && slices.ContainsFunc(h[j:], func(p api.Op) bool { return p.Tx == o.Tx }) {
				return false
			}
		}
	}
	return true
}

// byWords holds what is told of a right history against the promise's words, by all orders of its deals.
func byWords(t *testing.T, h []api.Op) {
	t.Helper()
	kept, deals := done(h)
	if is, err := serial.Is(h); err != nil || is != inOnePiece(kept) {
		t.Errorf("Is of %v: got %v %v", h, is, err)
	}
	var want []int
	wantErr := api.ErrCycle
	for _, order := range orders(deals) {
		s, err := serial.Serial(h, order)
		if err != nil || !slices.Equal(s, laid(kept, order)) {
			t.Errorf("Serial of %v along %v: got %v %v", h, order, s, err)
		}
		if is, err := serial.Is(s); err != nil || !is {
			t.Errorf("Is of what Serial gave, %v: got %v %v", s, is, err)
		}
		is, err := odds.Same(s, kept)
		if err != nil {
			t.Fatal(err)
		}
		if is && wantErr != api.OK {
			want, wantErr = order, api.OK
		}
	}
	if o, err := serial.Order(h); plain.Told(err) != wantErr || !slices.Equal(o, want) {
		t.Errorf("Order of %v: got %v %v, want %v %v", h, o, err, want, wantErr)
	}
	edges, err := odds.Edges(h)
	if err != nil {
		t.Fatal(err)
	}
	if _, err := graph.Ring(edges); (err == nil) != (wantErr == api.ErrCycle) {
		t.Errorf("%v: ring %v, order %v", h, err, wantErr)
	}
}

// TestSmall: S1, and that there is an order just if there is no ring: all ways in which three small deals go on at once.
func TestSmall(t *testing.T) {
	for _, texts := range [][]string{
		{"w1(a) c1", "w2(a) c2", "w3(a) c3"},
		{"r1(a) w1(b) c1", "r2(b) w2(a) c2", "w3(b) c3"},
		{"r1(a) w1(b) c1", "r2(b) w2(c) c2", "r3(c) w3(a) c3"},
		{"r4(a) w4(a) c4", "r5(a) w5(b) a5", "w6(b) w6(a) c6"},
		{"w6(a) w6(b) c6", "r2(a) r2(b)", "w4(b) w4(a) c4"},
		{"w3(a) r3(a) c3", "c1", "w2(b) r2(b) c2"},
	} {
		var parts [][]api.Op
		for _, text := range texts {
			parts = append(parts, ops(t, text))
		}
		var lay func(h []api.Op, rest [][]api.Op)
		lay = func(h []api.Op, rest [][]api.Op) {
			over := true
			for i, part := range rest {
				if len(part) > 0 {
					over = false
					next := slices.Clone(rest)
					next[i] = part[1:]
					lay(append(slices.Clone(h), part[0]), next)
				}
			}
			if over {
				byWords(t, h)
			}
		}
		lay(nil, parts)
	}
}

// TestGreat: S1: histories of six deals, by a rule that mixes numbers: some have an order, some go around.
func TestGreat(t *testing.T) {
	mixed := uint64(1)
	roll := func(n int) int {
		mixed = mixed*6364136223846793005 + 1442695040888963407
		return int(mixed>>33) % n
	}
	for i := range 150 {
		var h []api.Op
		for range i % 24 {
			o := read(roll(api.MaxTx)+1, roll(api.MaxItem)+1)
			if roll(4) == 0 {
				o.What = api.Write
			}
			h = append(h, o)
		}
		for _, tx := range orders([]int{1, 2, 3, 4, 5, 6})[roll(720)] {
			if end := roll(8); end > 1 {
				h = append(h, commit(tx))
			} else if end == 1 {
				h = append(h, abort(tx))
			}
		}
		byWords(t, h)
	}
}

// TestSerialOrders: S1, Serial along all lists of at most four numbers from 0 to 7: just the orders of those that commit are right.
func TestSerialOrders(t *testing.T) {
	for _, text := range []string{
		"",
		"w4(a) w5(a) a5",
		"w2(a) w4(a) c2 a4",
		"w1(a) w6(a) r3(b) c6 c1 a3",
		"w2(a) w1(a) r5(b) r6(a) c5 c1 c2",
	} {
		h := ops(t, text)
		kept, deals := done(h)
		right := orders(deals)
		found := 0
		lists := [][]int{nil}
		for i := 0; i < len(lists); i++ {
			order := lists[i]
			isRight := slices.ContainsFunc(right, func(r []int) bool { return slices.Equal(r, order) })
			want, wantErr := []api.Op(nil), api.ErrShape
			if isRight {
				found++
				want, wantErr = laid(kept, order), api.OK
			}
			if s, err := serial.Serial(h, order); plain.Told(err) != wantErr || !slices.Equal(s, want) {
				t.Errorf("%q along %v: got %v %v, want %v %v", text, order, s, err, want, wantErr)
			}
			for tx := 0; len(order) < 4 && tx <= api.MaxTx+1; tx++ {
				lists = append(lists, append(slices.Clone(order), tx))
			}
		}
		if found != len(right) {
			t.Errorf("%q: %d right orders of %d", text, found, len(right))
		}
	}
}

// TestMemory: P2 and P4 of DOC.md: what is handed in stays, nothing behind its length is read or written, and what comes out is fresh, call by call.
func TestMemory(t *testing.T) {
	whole := append(ops(t, "w3(a) r1(a) w4(b) c1 c2 c3"), api.Op{Tx: -7, What: 99, Item: 5}, commit(1))
	names := []int{3, 2, 1, 1, -9}
	was, called := slices.Clone(whole), slices.Clone(names)
	h, order := whole[:6], names[:3]
	for range 2 {
		s, err := serial.Serial(h, order)
		if err != nil || !slices.Equal(s, ops(t, "w3(a) c3 c2 r1(a) c1")) {
			t.Fatalf("Serial: got %v %v", s, err)
		}
		o, err := serial.Order(h)
		if err != nil || !slices.Equal(o, []int{2, 3, 1}) {
			t.Fatalf("Order: got %v %v", o, err)
		}
		if is, err := serial.Is(h); err != nil || is {
			t.Fatalf("Is: got %v %v", is, err)
		}
		if _, err := serial.Serial(h, names[:4]); plain.Told(err) != api.ErrShape {
			t.Fatalf("Serial along one too many: got %v", err)
		}
		clear(s[:cap(s)])
		clear(o[:cap(o)])
		if !slices.Equal(whole, was) || !slices.Equal(names, called) {
			t.Fatalf("what was handed in is now %v, %v", whole, names)
		}
	}
	all := ops(t, "w2(a) c2 r1(a) c1")
	s, err := serial.Serial(all, []int{2, 1})
	if err != nil || !slices.Equal(s, all) {
		t.Fatalf("Serial of what is serial: got %v %v", s, err)
	}
	clear(s)
	if !slices.Equal(all, ops(t, "w2(a) c2 r1(a) c1")) {
		t.Fatalf("what came out is what was handed in: %v", all)
	}
}
