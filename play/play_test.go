package play_test

import (
	"math"
	"slices"
	"testing"

	"locklane/api"
	"locklane/history"
	"locklane/plain"
	"locklane/play"
	"locklane/serial"
	"locklane/view"
)

// ops of a text that is right.
func ops(t *testing.T, text string) []api.Op {
	t.Helper()
	h, err := history.Parse(text)
	if err != nil {
		t.Fatalf("%q: %v", text, err)
	}
	return h
}

func read(tx, item int) api.Op  { return api.Op{Tx: tx, What: api.Read, Item: item} }
func write(tx, item int) api.Op { return api.Op{Tx: tx, What: api.Write, Item: item} }
func commit(tx int) api.Op      { return api.Op{Tx: tx, What: api.Commit} }
func abort(tx int) api.Op       { return api.Op{Tx: tx, What: api.Abort} }

// values of the first items; the others are 0.
func values(first ...int) []int {
	return append(first, make([]int, api.MaxItem-len(first))...)
}

// told holds what both calls tell of a history against what they should.
func told(t *testing.T, h []api.Op, want, wantSeen []int) {
	t.Helper()
	if v, err := play.Values(h); err != nil || !slices.Equal(v, want) {
		t.Fatalf("Values of %v: got %v %v, want %v", h, v, err, want)
	}
	if s, err := play.Seen(h); err != nil || !slices.Equal(s, wantSeen) {
		t.Fatalf("Seen of %v: got %v %v, want %v", h, s, err, wantSeen)
	}
}

// rich is a history of n ops in which something is read and written.
func rich(n int) []api.Op {
	h := []api.Op{write(1, 1), commit(1), read(2, 1), write(2, 1), commit(2)}
	for len(h) < n {
		h = append(h, read(3, 1))
	}
	return h[:n]
}

// with is rich, and these ops behind it.
func with(more ...api.Op) []api.Op { return append(rich(5), more...) }

// but is rich, of n ops, of which one is another op.
func but(n, at int, o api.Op) []api.Op {
	h := rich(n)
	h[at] = o
	return h
}

// TestWrong: P1: both calls tell Check's error, and nothing with it.
func TestWrong(t *testing.T) {
	for _, k := range []struct {
		name string
		h    []api.Op
		err  api.Errno
	}{
		{"one more than MaxOps", rich(api.MaxOps + 1), api.ErrFull},
		{"far more", rich(1000), api.ErrFull},
		{"too many, and one of no deal", but(api.MaxOps+1, 0, read(0, 1)), api.ErrFull},
		{"too many, and one behind its commit", but(api.MaxOps+1, api.MaxOps, read(1, 1)), api.ErrFull},
		{"first of MaxOps", but(api.MaxOps, 0, read(7, 1)), api.ErrRange},
		{"last of MaxOps", but(api.MaxOps, api.MaxOps-1, read(1, 0)), api.ErrRange},
		{"alone, of no deal", []api.Op{commit(0)}, api.ErrRange},
		{"deal 0", with(read(0, 1)), api.ErrRange},
		{"deal below 0", with(read(-1, 1)), api.ErrRange},
		{"deal beyond", with(commit(api.MaxTx + 1)), api.ErrRange},
		{"abort of a deal beyond", with(abort(api.MaxTx + 1)), api.ErrRange},
		{"greatest deal", with(commit(math.MaxInt)), api.ErrRange},
		{"least deal", with(commit(math.MinInt)), api.ErrRange},
		{"what 0", with(api.Op{Tx: 3, Item: 1}), api.ErrRange},
		{"what below 0", with(api.Op{Tx: 3, What: -1, Item: 1}), api.ErrRange},
		{"what beyond", with(api.Op{Tx: 3, What: api.Abort + 1}), api.ErrRange},
		{"item 0", with(read(3, 0)), api.ErrRange},
		{"item below 0", with(write(3, -1)), api.ErrRange},
		{"item beyond", with(write(3, api.MaxItem+1)), api.ErrRange},
		{"greatest item", with(read(3, math.MaxInt)), api.ErrRange},
		{"least item", with(write(3, math.MinInt)), api.ErrRange},
		{"commit of an item", with(api.Op{Tx: 3, What: api.Commit, Item: 1}), api.ErrRange},
		{"abort of an item", with(api.Op{Tx: 3, What: api.Abort, Item: 1}), api.ErrRange},
		{"behind its commit", with(read(1, 1)), api.ErrState},
		{"behind its abort", with(abort(3), read(3, 1)), api.ErrState},
		{"commit twice", with(commit(2)), api.ErrState},
		{"abort, then commit", with(abort(3), commit(3)), api.ErrState},
		{"alone, commit twice", []api.Op{commit(1), commit(1)}, api.ErrState},
		{"range, then state", with(read(0, 1), read(1, 1)), api.ErrRange},
		{"state, then range", with(read(1, 1), read(0, 1)), api.ErrState},
	} {
		if v, err := play.Values(k.h); plain.Told(err) != k.err || len(v) > 0 {
			t.Errorf("Values, %s: got %v %v, want %v", k.name, v, err, k.err)
		}
		if s, err := play.Seen(k.h); plain.Told(err) != k.err || len(s) > 0 {
			t.Errorf("Seen, %s: got %v %v, want %v", k.name, s, err, k.err)
		}
	}
	told(t, rich(5), values(24), []int{8})
}

// TestPlay: P1.
func TestPlay(t *testing.T) {
	for _, k := range []struct {
		text string
		want []int
		seen []int
	}{
		{"", values(), nil},
		// Nobody reads or writes.
		{"c1", values(), nil},
		{"c6 a5 c4", values(), nil},
		// Nobody commits.
		{"a1", values(), nil},
		{"w1(a) r2(a) r1(a) w2(b)", values(), nil},
		{"w1(a) r1(a) a1 w2(a) r2(a) a2", values(), nil},
		// The first op of a deal is a Write.
		{"w1(a) c1", values(8), nil},
		{"w6(f) c6", values(0, 0, 0, 0, 0, 43), nil},
		{"w2(c) c2", values(0, 0, 15), nil},
		// It comes later, behind Reads, behind Writes, behind both.
		{"r1(b) w1(a) c1", values(9), []int{0}},
		{"r1(b) r1(a) r1(b) w1(a) c1", values(11), []int{0, 0, 0}},
		{"w1(a) w1(b) w1(c) c1", values(8, 9, 10), nil},
		{"r1(a) w1(b) r1(b) w1(c) c1", values(0, 9, 20), []int{0, 9}},
		{"w1(a) r1(a) w1(a) w1(b) c1", values(18, 19), []int{8}},
		// Each Read of an item counts, with what it is by then.
		{"w1(a) r1(a) r1(a) w1(a) r1(a) w1(b) c1", values(27, 56), []int{8, 8, 27}},
		// Nobody wrote the item.
		{"r1(a) r1(f) c1", values(), []int{0, 0}},
		{"w1(a) r1(b) w1(c) c1", values(8, 0, 10), []int{0}},
		{"r1(a) w2(a) r1(b) c1 c2", values(15), []int{0, 0}},
		// One deal wrote it twice.
		{"w1(a) w1(a) c1", values(9), nil},
		{"w1(a) w1(b) w1(a) c1", values(10, 9), nil},
		{"w1(a) r1(a) w1(a) r1(a) c1", values(18), []int{8, 18}},
		// Several wrote it: it is what the last one wrote, in whatever order they commit.
		{"w1(a) w2(a) c1 c2", values(15), nil},
		{"w1(a) w2(a) c2 c1", values(15), nil},
		{"w2(a) w1(a) c1 c2", values(8), nil},
		{"w1(a) w2(a) w3(b) w1(a) c1 c2 c3", values(9, 22), nil},
		{"w1(a) r3(a) w2(a) r3(a) w3(c) c1 c2 c3", values(15, 0, 47), []int{8, 15}},
		// Only a deal's own ops and Reads count for it.
		{"w1(a) w2(b) w1(c) w2(d) c1 c2", values(8, 15, 9, 16), nil},
		{"w1(a) r2(a) w1(b) w2(c) c1 c2", values(8, 9, 24), []int{8}},
		{"r1(a) r2(a) w1(a) w2(a) c1 c2", values(16), []int{0, 0}},
		{"c3 w1(a) c4 w1(b) c1", values(8, 9), nil},
		// It reads what another one wrote, who commits ahead of it, later, or last of all.
		{"w2(a) c2 r1(a) w1(b) c1", values(15, 24), []int{15}},
		{"w2(a) r1(a) c2 w1(b) c1", values(15, 24), []int{15}},
		{"w2(a) r1(a) w1(b) c2 c1", values(15, 24), []int{15}},
		{"w2(a) r1(a) w1(b) c1 c2", values(15, 24), []int{15}},
		{"w1(a) r2(a) w2(b) r3(b) w3(c) c3 c2 c1", values(8, 24, 47), []int{8, 24}},
		// One wrote it who aborts, or does not end: ahead of, between and behind the others.
		{"w3(a) a3 r1(a) w1(b) c1", values(0, 9), []int{0}},
		{"w3(a) r1(a) w1(b) c1", values(0, 9), []int{0}},
		{"w3(a) r1(a) w1(b) c1 a3", values(0, 9), []int{0}},
		{"w3(a) r1(a) w1(b) c1 c3", values(22, 31), []int{22}},
		{"w2(a) w3(a) r1(a) w1(b) a3 c1 c2", values(15, 24), []int{15}},
		{"w2(a) w3(a) r1(a) w1(b) c1 c2", values(15, 24), []int{15}},
		{"w2(a) r1(a) w1(b) c1 c2 w3(a) w3(b) a3", values(15, 24), []int{15}},
		{"w2(a) r1(a) w1(b) c1 c2 w3(a) w3(b)", values(15, 24), []int{15}},
		{"w3(a) w2(a) w4(a) r1(a) w3(b) w1(b) w4(b) c1 c2 a3", values(15, 24), []int{15}},
		// One reads who aborts, or does not end: ahead, between and behind.
		{"r3(a) w2(a) r4(a) r1(a) w1(b) r3(b) c1 c2 r4(a) a3", values(15, 24), []int{15}},
		{"w1(a) r2(a) c1", values(8), nil},
		{"w1(a) r2(a) c1 a2", values(8), nil},
		// By turns: the Reads are told in the order in which they are done.
		{"w1(a) r2(a) w1(b) r3(b) r2(b) r3(a) c1 c2 c3", values(8, 9), []int{8, 9, 9, 8}},
		{"w1(a) r3(a) w1(b) r2(b) r3(b) r2(a) c3 c2 c1", values(8, 9), []int{8, 9, 9, 8}},
		{"w1(a) r2(a) r4(a) w1(b) r3(b) r4(b) r2(b) r3(a) c3 a4 c2 c1", values(8, 9), []int{8, 9, 9, 8}},
		{"r6(a) w6(a) r5(a) w5(a) r6(a) r5(a) c5 c6", values(81), []int{0, 44, 81, 81}},
		// The greatest and the least deal, at the last item and the first.
		{"w6(f) r1(f) w1(a) c1 c6", values(52, 0, 0, 0, 0, 43), []int{43}},
		{"w1(f) r6(f) w6(a) c1 c6", values(52, 0, 0, 0, 0, 8), []int{8}},
	} {
		told(t, ops(t, k.text), k.want, k.seen)
		byWords(t, ops(t, k.text))
	}
}

// great is what deal 3 does, 33 ops, to write at last just one less than MaxValue.
const great = "w3(a) r3(a) w3(a) r3(a) w3(a) r3(a) r3(b) w3(a) r3(a) w3(a) r3(a) w3(a) r3(a) r3(a) w3(a) r3(a) w3(a) " +
	"r3(a) r3(a) w3(a) r3(a) w3(a) r3(a) w3(b) r3(a) w3(a) r3(a) r3(a) w3(a) r3(a) w3(a) r3(a) w3(a)"

// TestGreatValues: P1: sums that come to MaxValue and go beyond it.
func TestGreatValues(t *testing.T) {
	const most = api.MaxValue - 1
	for _, k := range []struct {
		more string
		want []int
		seen []int // the last Reads
	}{
		{" c3", values(most, 55_554), nil},
		// One op later it is just MaxValue, then more.
		{" w3(b) w3(c) c3", values(most, 0, 1), nil},
		{" r3(f) w3(b) c3", values(most, 1), []int{0}},
		// What is read then is what is left: it is that which counts later.
		{" w3(b) w3(c) r3(b) r3(c) w3(d) c3", values(most, 0, 1, 5), []int{0, 1}},
		// Twice MaxValue.
		{" w3(b) w3(c) r3(a) r3(b) r3(c) w3(d) c3", values(most, 0, 1, 5), []int{most, 0, 1}},
		// Another deal reads it, once and again.
		{" c3 r1(a) w1(b) c1", values(most, 8), []int{most}},
		{" c3 r1(a) r1(a) w1(b) c1", values(most, 8), []int{most, most}},
		{" c3 r6(a) r6(a) r6(a) w6(a) c6", values(43, 55_554), []int{most, most, most}},
	} {
		h := ops(t, great+k.more)
		byWords(t, h)
		if v, err := play.Values(h); err != nil || !slices.Equal(v, k.want) {
			t.Errorf("Values, %q: got %v %v, want %v", k.more, v, err, k.want)
		}
		s, err := play.Seen(h)
		if err != nil || len(s) < len(k.seen) || !slices.Equal(s[len(s)-len(k.seen):], k.seen) {
			t.Errorf("Seen, %q: got %v %v, want %v at last", k.more, s, err, k.seen)
		}
	}
}

// TestMost: P1 at MaxOps ops, and what the last of them changes.
func TestMost(t *testing.T) {
	var reads, writes []api.Op
	for range api.MaxOps - 1 {
		reads = append(reads, read(6, 6))
		writes = append(writes, write(6, 6))
	}
	told(t, append(slices.Clone(reads), commit(6)), values(), make([]int, api.MaxOps-1))
	told(t, append(slices.Clone(reads), abort(6)), values(), nil)
	told(t, append(slices.Clone(reads), commit(5)), values(), nil)
	told(t, append(slices.Clone(reads), read(6, 6)), values(), nil)
	told(t, append(slices.Clone(writes), commit(6)), values(0, 0, 0, 0, 0, 42+39), nil)
	told(t, append(slices.Clone(writes), abort(6)), values(), nil)
	told(t, append(slices.Clone(writes), commit(5)), values(), nil)
	told(t, append(slices.Clone(writes), write(6, 6)), values(), nil)
}

// over tells whether a deal has ended by then.
func over(past []api.Op, tx int) bool {
	return slices.Contains(past, commit(tx)) || slices.Contains(past, abort(tx))
}

// playedByWords is P1, told without the program, place by place: what is read or written there; and how many Writes were of MaxValue or more.
func playedByWords(h []api.Op) (want, seen []int, rests int) {
	kept := slices.DeleteFunc(slices.Clone(h), func(o api.Op) bool { return !slices.Contains(h, commit(o.Tx)) })
	was := make([]int, len(kept))
	itemAt := func(end, item int) int {
		for at := end - 1; at >= 0; at-- {
			if kept[at] == write(kept[at].Tx, item) {
				return was[at]
			}
		}
		return 0
	}
	for at, o := range kept {
		switch o.What {
		case api.Read:
			was[at] = itemAt(at, o.Item)
			seen = append(seen, was[at])
		case api.Write:
			was[at] = 7*o.Tx + 1
			for i, p := range kept[:at] {
				if p.Tx == o.Tx {
					was[at]++
				}
				if p.Tx == o.Tx && p.What == api.Read {
					was[at] += was[i]
				}
			}
			if was[at] >= 1000003 {
				rests++
			}
			was[at] -= was[at] / 1000003 * 1000003
		}
	}
	for item := 1; item <= 6; item++ {
		want = append(want, itemAt(len(kept), item))
	}
	return want, seen, rests
}

// byWords holds what is told of a right history against the promise's words, and tells how many Writes were of MaxValue or more.
func byWords(t *testing.T, h []api.Op) (rests int) {
	t.Helper()
	want, seen, rests := playedByWords(h)
	told(t, h, want, seen)
	return rests
}

// grow goes over all histories of at most n ops, each of which is one of these, and whose deals are done with an end.
func grow(n int, some []api.Op, see func(h []api.Op)) {
	var h []api.Op
	var more func()
	more = func() {
		see(h)
		if len(h) == n {
			return
		}
		for _, o := range some {
			if !over(h, o.Tx) {
				h = append(h, o)
				more()
				h = h[:len(h)-1]
			}
		}
	}
	more()
}

// TestSmall: P1: all small histories of two deals on two items, and of three on one, as they are and where one or all commit at last.
func TestSmall(t *testing.T) {
	for _, k := range []struct {
		deals, items, n int
	}{{2, 2, 4}, {3, 1, 4}} {
		var some []api.Op
		for tx := 1; tx <= k.deals; tx++ {
			for item := 1; item <= k.items; item++ {
				some = append(some, read(tx, item), write(tx, item))
			}
			some = append(some, commit(tx), abort(tx))
		}
		grow(k.n, some, func(h []api.Op) {
			byWords(t, h)
			g := slices.Clone(h)
			for tx := 1; tx <= k.deals; tx++ {
				if !over(g, tx) {
					g = append(g, commit(tx))
					byWords(t, g)
				}
			}
		})
	}
}

// roller gives numbers below n, by a rule that mixes them.
func roller() func(n int) int {
	mixed := uint64(1)
	return func(n int) int {
		mixed = mixed*6364136223846793005 + 1442695040888963407
		return int(mixed>>33) % n
	}
}

// TestGreat: P1: mixed histories of up to six deals, as long as may be.
func TestGreat(t *testing.T) {
	roll := roller()
	orders := 0
	for i := range 20000 {
		var h []api.Op
		deals, items := roll(api.MaxTx)+1, roll(api.MaxItem)+1
		for range i % (api.MaxOps - api.MaxTx + 1) {
			o := api.Op{Tx: roll(deals) + 1, What: roll(2) + 1, Item: roll(items) + 1}
			if roll(20) == 0 {
				o = api.Op{Tx: o.Tx, What: api.Commit + roll(2)}
			}
			if !over(h, o.Tx) {
				h = append(h, o)
			}
		}
		for tx := deals; tx > 0; tx-- {
			if !over(h, tx) && roll(5) > 0 {
				h = append(h, commit(tx))
			}
		}
		byWords(t, h)
		if inOrder(t, h) {
			orders++
		}
	}
	if orders < 1000 || orders > 19000 {
		t.Errorf("%d of 20000 have an order: too few of a kind to tell", orders)
	}
}

// TestGreatSums: P1: mixed histories of two deals that read and write few items, over and over: some come beyond MaxValue.
func TestGreatSums(t *testing.T) {
	roll := roller()
	beyond := 0
	for i := range 5000 {
		var h []api.Op
		for len(h) < api.MaxOps-2 {
			tx := roll(2)*5 + 1
			if i%2 == 0 {
				tx = 4
			}
			h = append(h, write(tx, roll(6)/5+1), read(tx, roll(6)/5+1))
		}
		h = append(h, commit(1), commit([]int{4, 6}[i%2]))
		if byWords(t, h) > 0 {
			beyond++
		}
	}
	if beyond < 100 || beyond > 4900 {
		t.Errorf("%d of 5000 come beyond MaxValue: too few of a kind to tell", beyond)
	}
}

// inOrder tells whether a history has an order, and holds what it comes to against what its deals come to one behind the other: each reads what it read (DOC.md, what is to be true of the whole).
func inOrder(t *testing.T, h []api.Op) bool {
	t.Helper()
	order, err := serial.Order(h)
	if err != nil {
		return false
	}
	g, err := serial.Serial(h, order)
	if err != nil {
		t.Fatal(err)
	}
	if same, err := view.Same(h, g); err != nil || !same {
		t.Fatalf("%v, %v: got %v %v", h, g, same, err)
	}
	want, err := play.Values(h)
	if err != nil {
		t.Fatal(err)
	}
	if v, err := play.Values(g); err != nil || !slices.Equal(v, want) {
		t.Fatalf("Values of %v, which is %v in order: got %v %v, want %v", g, h, v, err, want)
	}
	seen, err := play.Seen(h)
	if err != nil {
		t.Fatal(err)
	}
	s, err := play.Seen(g)
	slices.Sort(seen)
	slices.Sort(s)
	if err != nil || !slices.Equal(s, seen) {
		t.Fatalf("Seen of %v, which is %v in order: got %v %v, want %v", g, h, s, err, seen)
	}
	return true
}

// TestMemory: P2 and P4 of DOC.md: what is handed in stays, nothing behind its length is read or written, and what comes out is fresh, call by call.
func TestMemory(t *testing.T) {
	// With deal 4's commit behind the length its Write would count.
	whole := append(ops(t, "w3(a) r1(a) w4(b) w1(c) c1 r3(c) c3"), commit(4), api.Op{Tx: -7, What: 99, Item: 5})
	was := slices.Clone(whole)
	h := whole[:7]
	for range 2 {
		v, err := play.Values(h)
		if err != nil || !slices.Equal(v, values(22, 0, 31)) {
			t.Fatalf("Values: got %v %v", v, err)
		}
		s, err := play.Seen(h)
		if err != nil || !slices.Equal(s, []int{22, 31}) {
			t.Fatalf("Seen: got %v %v", s, err)
		}
		clear(v[:cap(v)])
		clear(s[:cap(s)])
		if !slices.Equal(whole, was) {
			t.Fatalf("what was handed in is now %v", whole)
		}
	}
}
