package mix_test

import (
	"math"
	"slices"
	"testing"

	"locklane/api"
	"locklane/history"
	"locklane/mix"
	"locklane/odds"
	"locklane/serial"
)

// byDeals holds two orders against each other as they are sorted.
func byDeals(a, b []api.Op) int {
	return slices.CompareFunc(a, b, func(o, p api.Op) int { return o.Tx - p.Tx })
}

// allOrders of a history, sorted: each op is laid everywhere behind the last one of its deal, in all orders of those ahead of it.
func allOrders(h []api.Op) [][]api.Op {
	all := [][]api.Op{nil}
	for _, o := range h {
		var more [][]api.Op
		for _, order := range all {
			for at := len(order); at >= 0; at-- {
				more = append(more, slices.Insert(slices.Clone(order), at, o))
				if at > 0 && order[at-1].Tx == o.Tx {
					break
				}
			}
		}
		all = more
	}
	slices.SortFunc(all, byDeals)
	return all
}

// ways in which ops may be laid out, if just how many each deal has is known.
func ways(h []api.Op) int {
	n := 1
	had := map[int]int{}
	for i, o := range h {
		had[o.Tx]++
		n = n * (i + 1) / had[o.Tx]
	}
	return n
}

// places of orders that are asked for: all of few ones, and of many the first, the last and some between.
func places(n int) []int {
	step := max(1, n/60)
	at := []int{n - 1}
	for k := 0; k < n; k += step {
		at = append(at, k)
	}
	return at
}

// inOrder: what is done has chapter 4's Order.
func inOrder(t *testing.T, order []api.Op) bool {
	t.Helper()
	done, err := history.Done(order)
	if err != nil {
		t.Fatalf("%v: %v", order, err)
	}
	_, err = serial.Order(done)
	return err == nil
}

// asBehind: what is done is the same as if its deals had come one behind the other, in whichever order.
func asBehind(t *testing.T, order []api.Op) bool {
	t.Helper()
	done, err := history.Done(order)
	if err != nil {
		t.Fatalf("%v: %v", order, err)
	}
	deals, err := history.Deals(done)
	if err != nil {
		t.Fatalf("%v: %v", order, err)
	}
	var laid []int
	var found func() bool
	found = func() bool {
		if len(laid) == len(deals) {
			s, err := serial.Serial(done, laid)
			if err != nil {
				t.Fatalf("%v by %v: %v", done, laid, err)
			}
			same, err := odds.Same(s, done)
			return err == nil && same
		}
		for _, tx := range deals {
			if slices.Contains(laid, tx) {
				continue
			}
			laid = append(laid, tx)
			if found() {
				return true
			}
			laid = laid[:len(laid)-1]
		}
		return false
	}
	return found()
}

// byWords holds all calls against the words, at some orders if there are many; it gives how many orders there are, and how many are good.
func byWords(t *testing.T, h []api.Op, isGood func(*testing.T, []api.Op) bool) (int, int) {
	t.Helper()
	all := allOrders(h)
	good := 0
	for i, order := range all {
		if i > 0 && byDeals(all[i-1], order) >= 0 {
			t.Fatalf("%v: an order is there twice: %v", h, order)
		}
		if isGood(t, order) {
			good++
		}
	}
	if n, err := mix.Count(h); err != nil || n != len(all) || n != ways(h) {
		t.Fatalf("Count of %v: got %v %v, want %v", h, n, err, len(all))
	}
	if n, err := mix.Good(h); err != nil || n != good {
		t.Fatalf("Good of %v: got %v %v, want %v", h, n, err, good)
	}
	for _, k := range places(len(all)) {
		if order, err := mix.Nth(h, k); err != nil || !slices.Equal(order, all[k]) {
			t.Fatalf("%d of %v: got %v %v, want %v", k, h, order, err, all[k])
		}
	}
	for _, k := range []int{math.MinInt, -1, len(all), math.MaxInt} {
		if order, err := mix.Nth(h, k); err == nil || len(order) > 0 {
			t.Fatalf("%d of %v: got %v %v", k, h, order, err)
		}
	}
	return len(all), good
}

// over tells whether a deal has ended.
func over(h []api.Op, tx int) bool {
	return slices.Contains(h, commit(tx)) || slices.Contains(h, abort(tx))
}

// grow gives all histories of at most n of some ops.
func grow(n int, some []api.Op, give func([]api.Op)) {
	var h []api.Op
	var more func()
	more = func() {
		give(h)
		if len(h) == n {
			return
		}
		for _, o := range some {
			if !over(h, o.Tx) {
				h = append(h, o)
				more()
				h = h[:len(h)-1]
			}
		}
	}
	more()
}

// TestSmall: M1: all small histories of two deals on two items, and of three on one.
func TestSmall(t *testing.T) {
	for _, k := range []struct{ deals, items, n int }{{2, 2, 4}, {3, 1, 4}, {2, 1, 6}} {
		var some []api.Op
		for tx := 1; tx <= k.deals; tx++ {
			for item := 1; item <= k.items; item++ {
				some = append(some, read(tx, item), write(tx, item))
			}
			some = append(some, commit(tx))
		}
		some = append(some, abort(1))
		grow(k.n, some, func(h []api.Op) { byWords(t, h, asBehind) })
	}
}

// TestShapes: M1: however 8 ops or fewer are divided among deals: how many orders there are, and that in the first and the last one deal comes behind the other, rising and falling.
func TestShapes(t *testing.T) {
	var h []api.Op
	shapes := 0
	var divide func(tx int)
	divide = func(tx int) {
		if tx <= api.MaxTx {
			was := h
			for divide(tx + 1); len(h) < maxOps; divide(tx + 1) {
				h = append(h, read(tx, len(h)%api.MaxItem+1))
			}
			h = was
			return
		}
		shapes++
		n, err := mix.Count(h)
		if err != nil || n != ways(h) {
			t.Fatalf("Count of %v: got %v %v, want %v", h, n, err, ways(h))
		}
		falling := slices.Clone(h)
		slices.SortStableFunc(falling, func(o, p api.Op) int { return p.Tx - o.Tx })
		first, err := mix.Nth(falling, 0)
		if err != nil || !slices.Equal(first, h) {
			t.Fatalf("first of %v: got %v %v, want %v", falling, first, err, h)
		}
		last, err := mix.Nth(h, n-1)
		if err != nil || !slices.Equal(last, falling) {
			t.Fatalf("last of %v: got %v %v, want %v", h, last, err, falling)
		}
	}
	divide(1)
	if shapes != 3003 {
		t.Errorf("%d shapes", shapes)
	}
}

// TestEach: M1, Nth: each order of 8 ops, of few deals and of as many as may be, once, in order, each deal's own as they stood.
func TestEach(t *testing.T) {
	for _, text := range []string{
		"w1(a) r1(b) w1(c) c1 w2(a) r2(b) w2(c) c2",
		"w6(a) c6 w3(b) r3(a) w3(b) r5(a) a5 w3(f)",
		"w2(a) c2 w4(b) a4 r5(c) c5 r3(d) w3(d)",
		"c6 w1(a) c2 w1(a) a3 r4(b) r5(a) c5",
	} {
		h := ops(t, text)
		all := allOrders(h)
		if n, err := mix.Count(h); err != nil || n != len(all) {
			t.Errorf("Count of %q: got %v %v, want %v", text, n, err, len(all))
		}
		for k, want := range all {
			order, err := mix.Nth(h, k)
			if err != nil || !slices.Equal(order, want) {
				t.Fatalf("%d of %q: got %v %v, want %v", k, text, order, err, want)
			}
			for tx := 1; tx <= api.MaxTx; tx++ {
				own, err := history.Of(order, tx)
				if stood, bad := history.Of(h, tx); err != nil || bad != nil || !slices.Equal(own, stood) {
					t.Fatalf("%d of %q: deal %d did %v, not %v", k, text, tx, own, stood)
				}
			}
		}
		noMore(t, h, len(all))
	}
}

// mixed history of at most 8 ops, of two to six deals, mostly few, on one to three items; most deals that end commit.
func mixed(roll func(int) int) []api.Op {
	deals, items := min(roll(api.MaxTx-1), roll(api.MaxTx-1))+2, roll(3)+1
	var h []api.Op
	for range maxOps - roll(4) {
		o := api.Op{Tx: roll(deals) + 1, What: roll(2) + 1, Item: roll(items) + 1}
		if roll(6) == 0 {
			o = commit(o.Tx)
			if roll(4) == 0 {
				o = abort(o.Tx)
			}
		}
		if !over(h, o.Tx) {
			h = append(h, o)
		}
	}
	// Only what commits may go around: most of those do for which there is room.
	for tx := 1; tx <= deals && len(h) < maxOps; tx++ {
		if !over(h, tx) && roll(3) > 0 {
			h = append(h, commit(tx))
		}
	}
	return h
}

// TestGreat: M1: histories of up to six deals, by a rule that mixes numbers, as long as may be. An order goes around or not whatever those do that do not commit, and there always is one that does not.
func TestGreat(t *testing.T) {
	rule := uint64(1)
	roll := func(n int) int {
		rule = rule*6364136223846793005 + 1442695040888963407
		return int(rule>>33) % n
	}
	around := 0
	for range 400 {
		h := mixed(roll)
		count, good := byWords(t, h, inOrder)
		done, err := history.Done(h)
		if err != nil {
			t.Fatal(err)
		}
		few, err := mix.Count(done)
		if err != nil {
			t.Fatal(err)
		}
		if n, err := mix.Good(done); err != nil || n*(count/few) != good || good == 0 {
			t.Fatalf("Good of %v: got %v %v, and %v with those that do not commit", done, n, err, good)
		}
		if good < count {
			around++
		}
	}
	if around < 50 {
		t.Errorf("just %d histories that go around in some order", around)
	}
}

// TestTold: M1: the orders that Nth tells have the same orders themselves, whichever of them is asked.
func TestTold(t *testing.T) {
	h := ops(t, "r3(a) w1(b) r1(a) w3(b) c3 w2(a) c1")
	count, good := byWords(t, h, asBehind)
	for k := range count {
		other, err := mix.Nth(h, k)
		if err != nil {
			t.Fatal(err)
		}
		if n, err := mix.Count(other); err != nil || n != count {
			t.Fatalf("Count of %v: got %v %v, want %v", other, n, err, count)
		}
		if n, err := mix.Good(other); err != nil || n != good {
			t.Fatalf("Good of %v: got %v %v, want %v", other, n, err, good)
		}
		if order, err := mix.Nth(other, k); err != nil || !slices.Equal(order, other) {
			t.Fatalf("%d of %v: got %v %v", k, other, order, err)
		}
	}
}
