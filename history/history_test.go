package history_test

import (
	"math"
	"slices"
	"testing"

	"locklane/api"
	"locklane/history"
	"locklane/plain"
)

func r(tx, item int) api.Op { return api.Op{Tx: tx, What: api.Read, Item: item} }
func w(tx, item int) api.Op { return api.Op{Tx: tx, What: api.Write, Item: item} }
func c(tx int) api.Op       { return api.Op{Tx: tx, What: api.Commit} }
func a(tx int) api.Op       { return api.Op{Tx: tx, What: api.Abort} }

// reads is a history of n reads, deals and items in turn.
func reads(n int) []api.Op {
	var h []api.Op
	for i := range n {
		h = append(h, r(i%api.MaxTx+1, i%api.MaxItem+1))
	}
	return h
}

// with is a history of n reads, of which one is another op.
func with(n, at int, o api.Op) []api.Op {
	h := reads(n)
	h[at] = o
	return h
}

type fault struct {
	name string
	h    []api.Op
	at   int
	err  api.Errno
}

// faults: histories, and what Check says of them.
var faults = []fault{
	{"no ops", nil, 0, api.OK},
	{"no ops, not nil", []api.Op{}, 0, api.OK},
	{"ordinary", []api.Op{r(1, 1), w(2, 2), w(1, 1), c(1), a(2)}, 0, api.OK},
	{"nobody ends", []api.Op{r(1, 1), w(2, 1)}, 0, api.OK},
	{"end at once", []api.Op{c(1), a(2)}, 0, api.OK},
	{"least numbers", []api.Op{r(1, 1)}, 0, api.OK},
	{"greatest numbers", []api.Op{w(api.MaxTx, api.MaxItem), a(api.MaxTx)}, 0, api.OK},
	{"others go on behind an end", []api.Op{r(1, 1), c(1), r(2, 1), a(2), w(3, 1)}, 0, api.OK},
	{"MaxOps", reads(api.MaxOps), 0, api.OK},
	{"MaxOps and one", reads(api.MaxOps + 1), 0, api.ErrFull},
	{"far more", reads(1000), 0, api.ErrFull},
	{"last of MaxOps", with(api.MaxOps, api.MaxOps-1, r(0, 1)), api.MaxOps - 1, api.ErrRange},
	{"too many ahead of all else", with(api.MaxOps+1, 0, r(0, 1)), 0, api.ErrFull},
	{"too many, one wrong in the middle", with(api.MaxOps+1, 7, r(0, 1)), 0, api.ErrFull},

	{"deal 0", []api.Op{r(1, 1), r(0, 1)}, 1, api.ErrRange},
	{"deal 0 first", []api.Op{r(0, 1), r(1, 1)}, 0, api.ErrRange},
	{"deal below 0", []api.Op{r(1, 1), r(-1, 1)}, 1, api.ErrRange},
	{"deal beyond", []api.Op{r(1, 1), r(api.MaxTx+1, 1)}, 1, api.ErrRange},
	{"deal 0 ends", []api.Op{r(1, 1), c(0)}, 1, api.ErrRange},
	{"deal beyond ends", []api.Op{r(1, 1), a(api.MaxTx + 1)}, 1, api.ErrRange},
	{"least deal", []api.Op{r(1, 1), r(math.MinInt, 1)}, 1, api.ErrRange},
	{"greatest deal", []api.Op{r(1, 1), r(math.MaxInt, 1)}, 1, api.ErrRange},

	{"what 0", []api.Op{r(1, 1), {Tx: 1, What: 0, Item: 1}}, 1, api.ErrRange},
	{"what 0, item 0", []api.Op{r(1, 1), {Tx: 1}}, 1, api.ErrRange},
	{"what below 0", []api.Op{r(1, 1), {Tx: 1, What: -1, Item: 1}}, 1, api.ErrRange},
	{"what beyond", []api.Op{r(1, 1), {Tx: 1, What: api.Abort + 1, Item: 1}}, 1, api.ErrRange},
	{"what beyond, item 0", []api.Op{r(1, 1), {Tx: 1, What: api.Abort + 1}}, 1, api.ErrRange},
	{"least what", []api.Op{r(1, 1), {Tx: 1, What: math.MinInt, Item: 1}}, 1, api.ErrRange},
	{"greatest what", []api.Op{r(1, 1), {Tx: 1, What: math.MaxInt, Item: 1}}, 1, api.ErrRange},

	{"read of item 0", []api.Op{r(1, 1), r(1, 0)}, 1, api.ErrRange},
	{"write of item 0", []api.Op{r(1, 1), w(1, 0)}, 1, api.ErrRange},
	{"read below 0", []api.Op{r(1, 1), r(1, -1)}, 1, api.ErrRange},
	{"write below 0", []api.Op{r(1, 1), w(1, -1)}, 1, api.ErrRange},
	{"read beyond", []api.Op{r(1, 1), r(1, api.MaxItem+1)}, 1, api.ErrRange},
	{"write beyond", []api.Op{r(1, 1), w(1, api.MaxItem+1)}, 1, api.ErrRange},
	{"least item", []api.Op{r(1, 1), w(1, math.MinInt)}, 1, api.ErrRange},
	{"greatest item", []api.Op{r(1, 1), w(1, math.MaxInt)}, 1, api.ErrRange},
	{"commit of an item", []api.Op{r(1, 1), {Tx: 1, What: api.Commit, Item: 1}}, 1, api.ErrRange},
	{"abort of an item", []api.Op{r(1, 1), {Tx: 1, What: api.Abort, Item: api.MaxItem}}, 1, api.ErrRange},
	{"commit below 0", []api.Op{r(1, 1), {Tx: 1, What: api.Commit, Item: -1}}, 1, api.ErrRange},
	{"abort beyond", []api.Op{r(1, 1), {Tx: 1, What: api.Abort, Item: api.MaxItem + 1}}, 1, api.ErrRange},

	{"read behind commit", []api.Op{c(1), r(1, 1)}, 1, api.ErrState},
	{"write behind abort", []api.Op{a(1), w(1, 1)}, 1, api.ErrState},
	{"commit twice", []api.Op{c(1), c(1)}, 1, api.ErrState},
	{"abort twice", []api.Op{a(1), a(1)}, 1, api.ErrState},
	{"commit behind abort", []api.Op{r(2, 1), a(1), r(2, 1), c(1)}, 3, api.ErrState},
	{"abort behind commit", []api.Op{r(2, 1), c(6), r(2, 1), a(6)}, 3, api.ErrState},
	{"long behind its end", []api.Op{c(3), r(1, 1), r(2, 1), w(1, 2), r(3, 1)}, 4, api.ErrState},

	{"both of one op", []api.Op{c(1), r(1, 0)}, 1, api.ErrRange},
	{"an ended deal, no such what", []api.Op{c(1), {Tx: 1, What: 9, Item: 1}}, 1, api.ErrRange},
	{"state, then range", []api.Op{c(1), r(1, 1), r(0, 1)}, 1, api.ErrState},
	{"range, then state", []api.Op{c(1), r(0, 1), r(1, 1)}, 1, api.ErrRange},
	{"several of range", []api.Op{r(2, 1), r(2, 7), r(7, 1), r(0, 0)}, 1, api.ErrRange},
}

// TestCheck: H1, Check.
func TestCheck(t *testing.T) {
	for _, f := range faults {
		at, err := history.Check(f.h)
		if at != f.at || plain.Told(err) != f.err {
			t.Errorf("%s: got %d %v, want %d %v", f.name, at, err, f.at, f.err)
		}
	}
}

// TestCheckEachOp holds Check of all small ops against the bounds, written out.
func TestCheckEachOp(t *testing.T) {
	for tx := -1; tx <= 8; tx++ {
		for what := -1; what <= 6; what++ {
			for item := -1; item <= 8; item++ {
				want := api.ErrRange
				onItem := (what == 1 || what == 2) && 1 <= item && item <= 6
				atEnd := (what == 3 || what == 4) && item == 0
				if 1 <= tx && tx <= 6 && (onItem || atEnd) {
					want = api.OK
				}
				o := api.Op{Tx: tx, What: what, Item: item}
				if _, err := history.Check([]api.Op{o}); plain.Told(err) != want {
					t.Errorf("%v: got %v, want %v", o, err, want)
				}
			}
		}
	}
}

// TestAllCheck: H1, H2: every other call tells Check's error, and nothing with it.
func TestAllCheck(t *testing.T) {
	for _, f := range faults {
		deals, err := history.Deals(f.h)
		if plain.Told(err) != f.err || err != nil && len(deals) > 0 {
			t.Errorf("Deals, %s: got %v %v, want %v", f.name, deals, err, f.err)
		}
		of, err := history.Of(f.h, 1)
		if plain.Told(err) != f.err || err != nil && len(of) > 0 {
			t.Errorf("Of, %s: got %v %v, want %v", f.name, of, err, f.err)
		}
		done, err := history.Done(f.h)
		if plain.Told(err) != f.err || err != nil && len(done) > 0 {
			t.Errorf("Done, %s: got %v %v, want %v", f.name, done, err, f.err)
		}
		text, err := history.Print(f.h)
		if plain.Told(err) != f.err || err != nil && text != "" {
			t.Errorf("Print, %s: got %q %v, want %v", f.name, text, err, f.err)
		}
	}
}

// TestDeals: H1, Deals.
func TestDeals(t *testing.T) {
	for _, k := range []struct {
		h    []api.Op
		want []int
	}{
		{nil, nil},
		{[]api.Op{a(4)}, []int{4}},
		{[]api.Op{r(6, 1), w(1, 1), r(6, 2), c(1)}, []int{1, 6}},
		{[]api.Op{r(5, 1), c(3), a(2), r(5, 3)}, []int{2, 3, 5}},
		{[]api.Op{c(6), c(5), c(4), c(3), c(2), c(1)}, []int{1, 2, 3, 4, 5, 6}},
	} {
		got, err := history.Deals(k.h)
		if err != nil || !slices.Equal(got, k.want) {
			t.Errorf("%v: got %v %v, want %v", k.h, got, err, k.want)
		}
	}
}

// TestOf: H1, Of.
func TestOf(t *testing.T) {
	h := []api.Op{r(2, 1), w(1, 3), r(2, 1), w(2, 2), c(1), a(2), r(6, 6)}
	for _, k := range []struct {
		h    []api.Op
		tx   int
		want []api.Op
		err  api.Errno
	}{
		{h, 1, []api.Op{w(1, 3), c(1)}, api.OK},
		{h, 2, []api.Op{r(2, 1), r(2, 1), w(2, 2), a(2)}, api.OK},
		{h, 3, nil, api.OK},
		{h, 6, []api.Op{r(6, 6)}, api.OK},
		{nil, 1, nil, api.OK},
		{nil, api.MaxTx, nil, api.OK},
		{h, 0, nil, api.ErrRange},
		{h, -1, nil, api.ErrRange},
		{h, api.MaxTx + 1, nil, api.ErrRange},
		{h, math.MinInt, nil, api.ErrRange},
		{h, math.MaxInt, nil, api.ErrRange},
		{nil, 0, nil, api.ErrRange},
		{[]api.Op{c(1), c(1)}, 0, nil, api.ErrState},
		{reads(api.MaxOps + 1), api.MaxTx + 1, nil, api.ErrFull},
	} {
		got, err := history.Of(k.h, k.tx)
		if plain.Told(err) != k.err || !slices.Equal(got, k.want) {
			t.Errorf("%v of %v: got %v %v, want %v %v", k.tx, k.h, got, err, k.want, k.err)
		}
	}
}

// TestDone: H1, Done.
func TestDone(t *testing.T) {
	for _, k := range []struct{ h, want []api.Op }{
		{nil, nil},
		{[]api.Op{r(1, 1), w(2, 2)}, nil},
		{[]api.Op{r(1, 1), a(1)}, nil},
		{[]api.Op{c(1)}, []api.Op{c(1)}},
		{
			[]api.Op{r(3, 1), w(1, 3), r(2, 1), w(3, 2), a(2), c(3), w(6, 6), c(1), r(4, 1)},
			[]api.Op{r(3, 1), w(1, 3), w(3, 2), c(3), c(1)},
		},
		{[]api.Op{w(6, 1), a(1), w(6, 1), c(6)}, []api.Op{w(6, 1), w(6, 1), c(6)}},
	} {
		got, err := history.Done(k.h)
		if err != nil || !slices.Equal(got, k.want) {
			t.Errorf("%v: got %v %v, want %v", k.h, got, err, k.want)
		}
	}
}

// TestMemory: P2 and P4 of DOC.md: what is handed in stays, nothing behind its length is read or written, and what comes out is fresh.
func TestMemory(t *testing.T) {
	whole := []api.Op{r(1, 1), w(1, 2), c(1), {Tx: -7, What: 99, Item: 5}, c(1)}
	was := slices.Clone(whole)
	h := whole[:3]
	of, err := history.Of(h, 1)
	if err != nil || !slices.Equal(of, was[:3]) {
		t.Fatalf("Of: got %v %v", of, err)
	}
	done, err := history.Done(h)
	if err != nil || !slices.Equal(done, was[:3]) {
		t.Fatalf("Done: got %v %v", done, err)
	}
	if text, err := history.Print(h); err != nil || text != "r1(a) w1(b) c1" {
		t.Fatalf("Print: got %q %v", text, err)
	}
	if deals, err := history.Deals(h); err != nil || !slices.Equal(deals, []int{1}) {
		t.Fatalf("Deals: got %v %v", deals, err)
	}
	clear(of[:cap(of)])
	if !slices.Equal(whole, was) || !slices.Equal(done, was[:3]) {
		t.Errorf("what Of gave is not its own: %v, %v", whole, done)
	}
	clear(done[:cap(done)])
	if !slices.Equal(whole, was) {
		t.Errorf("what Done gave is not its own: %v", whole)
	}
}
