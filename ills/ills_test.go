package ills_test

import (
	"math"
	"slices"
	"testing"

	"locklane/api"
	"locklane/faces"
	"locklane/history"
	"locklane/ills"
	"locklane/plain"
	"locklane/strict"
)

// ops of a text that is right.
func ops(t *testing.T, text string) []api.Op {
	t.Helper()
	h, err := history.Parse(text)
	if err != nil {
		t.Fatalf("%q: %v", text, err)
	}
	return h
}

func read(tx, item int) api.Op  { return api.Op{Tx: tx, What: api.Read, Item: item} }
func write(tx, item int) api.Op { return api.Op{Tx: tx, What: api.Write, Item: item} }
func commit(tx int) api.Op      { return api.Op{Tx: tx, What: api.Commit} }
func abort(tx int) api.Op       { return api.Op{Tx: tx, What: api.Abort} }

// ill of letters: w DirtyWrite, r DirtyRead, u Unrepeated, l Lost.
func ill(letters string) (x api.Ills) {
	for _, l := range letters {
		switch l {
		case 'w':
			x.DirtyWrite = true
		case 'r':
			x.DirtyRead = true
		case 'u':
			x.Unrepeated = true
		case 'l':
			x.Lost = true
		}
	}
	return x
}

// sick is a history of n ops, five at least, that has all ills.
func sick(n int) []api.Op {
	h := []api.Op{read(2, 1), write(1, 1), write(2, 1), read(1, 1), commit(2)}
	for len(h) < n {
		h = append(h, read(3, 1))
	}
	return h
}

// with is sick, and these ops behind it.
func with(more ...api.Op) []api.Op { return append(sick(5), more...) }

// but is sick, of n ops, of which one is another op.
func but(n, at int, o api.Op) []api.Op {
	h := sick(n)
	h[at] = o
	return h
}

// TestWrong: I1: both calls tell Check's error, and nothing with it.
func TestWrong(t *testing.T) {
	for _, k := range []struct {
		name string
		h    []api.Op
		err  api.Errno
	}{
		{"one more than MaxOps", sick(api.MaxOps + 1), api.ErrFull},
		{"far more", sick(1000), api.ErrFull},
		{"too many, and one of no deal", but(api.MaxOps+1, 0, read(0, 1)), api.ErrFull},
		{"too many, and one behind its commit", but(api.MaxOps+1, api.MaxOps, read(2, 1)), api.ErrFull},
		{"first of MaxOps", but(api.MaxOps, 0, read(7, 1)), api.ErrRange},
		{"last of MaxOps", but(api.MaxOps, api.MaxOps-1, read(3, 0)), api.ErrRange},
		{"alone, of no deal", []api.Op{commit(0)}, api.ErrRange},
		{"deal 0", with(read(0, 1)), api.ErrRange},
		{"deal below 0", with(read(-1, 1)), api.ErrRange},
		{"deal beyond", with(commit(api.MaxTx + 1)), api.ErrRange},
		{"abort of a deal beyond", with(abort(api.MaxTx + 1)), api.ErrRange},
		{"greatest deal", with(commit(math.MaxInt)), api.ErrRange},
		{"least deal", with(commit(math.MinInt)), api.ErrRange},
		{"what 0", with(api.Op{Tx: 3, Item: 1}), api.ErrRange},
		{"what below 0", with(api.Op{Tx: 3, What: -1, Item: 1}), api.ErrRange},
		{"what beyond", with(api.Op{Tx: 3, What: api.Abort + 1}), api.ErrRange},
		{"greatest what", with(api.Op{Tx: 3, What: math.MaxInt, Item: 1}), api.ErrRange},
		{"item 0", with(read(3, 0)), api.ErrRange},
		{"item below 0", with(write(3, -1)), api.ErrRange},
		{"item beyond", with(write(3, api.MaxItem+1)), api.ErrRange},
		{"greatest item", with(read(3, math.MaxInt)), api.ErrRange},
		{"least item", with(write(3, math.MinInt)), api.ErrRange},
		{"commit of an item", with(api.Op{Tx: 3, What: api.Commit, Item: 1}), api.ErrRange},
		{"abort of an item", with(api.Op{Tx: 3, What: api.Abort, Item: 1}), api.ErrRange},
		{"behind its commit", with(read(2, 1)), api.ErrState},
		{"behind its abort", with(abort(3), write(3, 1)), api.ErrState},
		{"commit twice", with(commit(2)), api.ErrState},
		{"abort, then commit", with(abort(3), commit(3)), api.ErrState},
		{"alone, commit twice", []api.Op{commit(1), commit(1)}, api.ErrState},
		{"range, then state", with(read(0, 1), read(2, 1)), api.ErrRange},
		{"state, then range", with(read(2, 1), read(0, 1)), api.ErrState},
		// Check comes ahead of ErrNone.
		{"no ill, and wrong", []api.Op{read(1, 1), commit(1), read(1, 1)}, api.ErrState},
	} {
		if x, err := ills.Of(k.h); plain.Told(err) != k.err || x != ill("") {
			t.Errorf("Of, %s: got %v %v, want %v", k.name, x, err, k.err)
		}
		if at, err := ills.First(k.h); plain.Told(err) != k.err || at != 0 {
			t.Errorf("First, %s: got %v %v, want %v", k.name, at, err, k.err)
		}
	}
	if x, err := ills.Of(sick(5)); err != nil || x != ill("wrul") {
		t.Errorf("Of, but for what is wrong: got %v %v", x, err)
	}
	if at, err := ills.First(sick(5)); err != nil || at != 1 {
		t.Errorf("First, but for what is wrong: got %v %v", at, err)
	}
}

// told is what both calls should tell: the ills, and where the first one is; 0 stands for ErrNone, as the first op of all is never ill.
type told struct {
	text  string
	ills  string
	first int
}

// hold holds what both calls tell against that.
func hold(t *testing.T, list []told) {
	t.Helper()
	for _, k := range list {
		h := ops(t, k.text)
		if x, err := ills.Of(h); err != nil || x != ill(k.ills) {
			t.Errorf("Of %q: got %v %v, want %v", k.text, x, err, ill(k.ills))
		}
		want := api.OK
		if k.first == 0 {
			want = api.ErrNone
		}
		if at, err := ills.First(h); plain.Told(err) != want || at != k.first {
			t.Errorf("First of %q: got %v %v, want %v %v", k.text, at, err, k.first, want)
		}
	}
}

// TestNone: I1: nothing goes wrong.
func TestNone(t *testing.T) {
	hold(t, []told{
		{"", "", 0},
		{"r1(a)", "", 0},
		{"w1(a)", "", 0},
		{"c1", "", 0},
		{"a1", "", 0},
		{"c1 c2 a3 c4", "", 0},
		// One deal alone.
		{"r1(a) w1(a) r1(a) w1(a) w1(a) c1", "", 0},
		{"r1(a) w1(a) r1(a) w1(a) w1(a)", "", 0},
		// All read.
		{"r1(a) r2(a) r3(a) c2 r1(a) c1", "", 0},
		// Each on items of its own.
		{"r1(a) w2(b) w1(a) r2(b) w3(c) r3(c) w2(b) w1(a) c1 c2", "", 0},
		// One behind the other.
		{"r1(a) w1(a) c1 r2(a) w2(a) a2 w3(a) r3(a)", "", 0},
	})
}

// TestDirtyWrite: I1: a deal writes what another one wrote which has not ended by then.
func TestDirtyWrite(t *testing.T) {
	hold(t, []told{
		// The other one commits, aborts, or does not end: behind it.
		{"w1(a) w2(a) c1 c2", "w", 1},
		{"w1(a) w2(a) a1 c2", "w", 1},
		{"w1(a) w2(a) c2", "w", 1},
		{"w1(a) w2(a)", "w", 1},
		// And ahead of it.
		{"w1(a) c1 w2(a) c2", "", 0},
		{"w1(a) a1 w2(a) c2", "", 0},
		// Whatever becomes of the deal itself.
		{"w1(a) w2(a) a2 c1", "w", 1},
		{"w1(a) w2(a) c2 c1", "w", 1},
		{"w6(f) w5(f)", "w", 1},
		// The deal's own Write, or another item.
		{"w1(a) w1(a) c1", "", 0},
		{"w1(a) w2(b) c1 c2", "", 0},
		{"w1(a) w2(b) w1(a) w2(b)", "", 0},
		// Whatever stands between.
		{"w1(a) w1(b) r1(b) w3(c) c3 r1(c) w2(a)", "w", 6},
		{"w1(a) w1(b) c3 a4 w2(b) w2(a)", "w", 4},
		// Another one than the last that wrote has not ended.
		{"w1(a) w2(a) c2 w3(a) c3", "w", 1},
		{"w1(a) c1 w2(a) c2 w3(a) w4(a)", "w", 5},
		// Another one has ended, which is not the one that wrote.
		{"w1(a) c3 w2(a)", "w", 2},
		{"w1(a) w3(b) c3 a4 w2(a)", "w", 4},
		// Back to the first one.
		{"w1(a) w2(a) w1(a)", "w", 1},
		{"w1(a) c1 w2(a) a2 w3(a) w3(a) c3", "", 0},
	})
}

// TestDirtyRead: I1: a deal reads what another one wrote which has not ended by then.
func TestDirtyRead(t *testing.T) {
	hold(t, []told{
		{"w1(a) r2(a) c1 c2", "r", 1},
		{"w1(a) r2(a) a1 c2", "r", 1},
		{"w1(a) r2(a) c2", "r", 1},
		{"w1(a) r2(a)", "r", 1},
		{"w1(a) c1 r2(a) c2", "", 0},
		{"w1(a) a1 r2(a) c2", "", 0},
		{"w1(a) r2(a) a2 c1", "r", 1},
		{"w1(a) r2(a) c2 c1", "r", 1},
		{"w6(f) r5(f)", "r", 1},
		// The deal's own Write, or another item.
		{"w1(a) r1(a) c1", "", 0},
		{"w1(a) r2(b) c1 c2", "", 0},
		// The Read is ahead of the Write, which is another ill.
		{"r2(a) w1(a)", "u", 1},
		{"r2(a) c2 w1(a)", "", 0},
		// Whatever stands between.
		{"w1(a) w1(b) r1(a) w3(c) c3 r1(c) r2(a)", "r", 6},
		// The deal wrote over it, but the other one still has not ended.
		{"w1(a) w2(a) r2(a) c2", "wr", 1},
		{"w1(a) w2(a) c1 r2(a) c2", "w", 1},
		// One that committed wrote over it.
		{"w1(a) w2(a) c2 r3(a)", "wr", 1},
		{"w1(a) w2(a) c2 c1 r3(a)", "w", 1},
		// Another one has ended.
		{"w1(a) c3 r2(a)", "r", 2},
		{"w1(a) c1 r2(a) w3(a) c3", "u", 3},
	})
}

// TestUnrepeated: I1: a deal writes what another one read which has not ended by then.
func TestUnrepeated(t *testing.T) {
	hold(t, []told{
		{"r1(a) w2(a) c1 c2", "u", 1},
		{"r1(a) w2(a) a1 c2", "u", 1},
		{"r1(a) w2(a) c2", "u", 1},
		{"r1(a) w2(a)", "u", 1},
		{"r1(a) c1 w2(a) c2", "", 0},
		{"r1(a) a1 w2(a) c2", "", 0},
		{"r1(a) w2(a) a2 c1", "u", 1},
		{"r1(a) w2(a) c2 c1", "u", 1},
		{"r6(f) w5(f)", "u", 1},
		// The deal itself read it, or another item.
		{"r1(a) w1(a) c1", "", 0},
		{"r1(a) w2(b) c1 c2", "", 0},
		// It need not be read again; and is not ill by being so when the other one has committed.
		{"r1(a) w2(a) c2 r1(a) c1", "u", 1},
		{"r1(a) w2(a) r1(a) c2 c1", "ru", 1},
		// The deal itself read it too, and one of several has not ended.
		{"r1(a) r2(a) c1 w2(a)", "", 0},
		{"r1(a) r2(a) w2(a) c1", "u", 2},
		{"r1(a) r2(a) r3(a) c1 a3 w2(a)", "", 0},
		{"r1(a) r2(a) r3(a) c1 w2(a) a3", "u", 4},
		// Whatever stands between, and whoever else has ended.
		{"r1(a) r1(b) w1(c) c3 a4 w2(a)", "u", 5},
	})
}

// TestLost: I1: a deal reads, another one writes behind that, the first one writes behind that, and commits.
func TestLost(t *testing.T) {
	hold(t, []told{
		// The other one commits, aborts, or does not end, between and behind.
		{"r1(a) w2(a) w1(a) c1", "wul", 1},
		{"r1(a) w2(a) c2 w1(a) c1", "ul", 1},
		{"r1(a) w2(a) a2 w1(a) c1", "ul", 1},
		{"r1(a) w2(a) w1(a) c2 c1", "wul", 1},
		{"r1(a) w2(a) w1(a) a2 c1", "wul", 1},
		{"r1(a) w2(a) w1(a) c1 c2", "wul", 1},
		{"r1(a) w2(a) w1(a) c1 a2", "wul", 1},
		{"r6(f) w5(f) c5 w6(f) c6", "ul", 1},
		// The first one is aborted, or does not end.
		{"r1(a) w2(a) c2 w1(a) a1", "u", 1},
		{"r1(a) w2(a) c2 w1(a)", "u", 1},
		{"r1(a) w2(a) w1(a) a1 c2", "wu", 1},
		{"r1(a) w2(a) w1(a) c2", "wu", 1},
		// The Write of the other one is ahead of the Read.
		{"w2(a) c2 r1(a) w1(a) c1", "", 0},
		{"w2(a) r1(a) c2 w1(a) c1", "r", 1},
		{"w2(a) r1(a) w1(a) c1 c2", "wr", 1},
		// It is behind the last Write of the first one.
		{"r1(a) w1(a) w2(a) c1 c2", "wu", 2},
		{"r1(a) w1(a) c1 w2(a) c2", "", 0},
		{"r1(a) w1(a) w2(a) c2 c1", "wu", 2},
		// It is between two Writes of the first one.
		{"r1(a) w1(a) w2(a) w1(a) c2 c1", "wul", 2},
		// It is between two Reads of the first one, or behind both.
		{"r1(a) w2(a) c2 r1(a) w1(a) c1", "ul", 1},
		{"r1(a) r1(a) w2(a) c2 w1(a) c1", "ul", 2},
		// The first one read only behind it what it then writes.
		{"r1(b) w2(a) c2 r1(a) w1(a) c1", "", 0},
		// It reads just its own Write.
		{"w1(a) r1(a) w2(a) c2 w1(a) c1", "wul", 2},
		// It does not read, or reads behind its last Write.
		{"w1(a) w2(a) w1(a) c1 c2", "w", 1},
		{"w2(a) c2 w1(a) r1(a) c1", "", 0},
		// Nobody else writes.
		{"r1(a) r2(a) c2 w1(a) c1", "", 0},
		{"r1(a) w1(a) w1(a) c1", "", 0},
		// The items are unlike.
		{"r1(a) w2(b) c2 w1(a) c1", "", 0},
		{"r1(a) w2(a) c2 w1(b) c1", "u", 1},
		{"r1(b) w2(a) c2 w1(a) c1", "", 0},
		{"r1(a) w2(b) c2 w1(b) c1", "", 0},
		// The deals are: it is another one that writes, or commits.
		{"r1(a) w2(a) c2 w3(a) c3 c1", "u", 1},
		{"r1(a) w2(a) w2(a) c2 c1", "u", 1},
		{"r1(a) w2(a) w1(a) c2 c3", "wu", 1},
		{"r1(a) r3(a) w2(a) c2 w1(a) c3 a1", "u", 2},
		// Whatever stands between.
		{"r4(f) r1(a) w4(e) r1(b) w2(a) c2 r1(d) c3 w1(a) w4(f) w1(d) a4 c1", "ul", 4},
		// Each loses what the other one wrote; one does, if just one commits.
		{"r1(a) r2(a) w1(a) w2(a) c1 c2", "wul", 2},
		{"r1(a) r2(a) w1(a) w2(a) c1 a2", "wu", 2},
		{"r1(a) r2(a) w1(a) w2(a) a1 c2", "wul", 2},
		{"r1(a) r2(a) w1(a) c1 w2(a) c2", "ul", 2},
		// Just the last one of several does.
		{"r1(a) w2(a) c2 w1(a) a1 r3(a) w4(a) w3(a) c3", "wul", 1},
		{"r1(a) w1(a) c1 r2(b) w2(b) a2 r3(c) w4(c) c4 w3(c) c3", "ul", 7},
	})
}

// TestSeveral: I1: several in one history, and which of them is the first.
func TestSeveral(t *testing.T) {
	hold(t, []told{
		{"w1(a) w2(a) r3(a)", "wr", 1},
		{"w1(a) r3(a) w2(a)", "wru", 1},
		{"r3(a) w1(a) w2(a)", "wu", 1},
		{"w1(a) r2(b) r3(a) w4(b)", "ru", 2},
		{"w1(a) r2(b) w4(b) r3(a)", "ru", 2},
		// What is met first is not what is ill first.
		{"w1(a) w2(b) w3(b) w3(a)", "w", 2},
		{"w1(a) r2(b) w3(b) r3(a)", "ru", 2},
		{"r1(a) w2(b) r3(b) w3(a)", "ru", 2},
		{"r1(a) r2(b) r3(c) w4(c) w4(b) w4(a)", "u", 3},
		// Each deal ends ahead of it, but the last.
		{"w1(a) c1 r2(a) a2 w3(a) c3 r4(a) c4 w5(a) r6(a)", "r", 9},
		{"w1(a) c1 r2(a) a2 w3(a) c3 r4(a) c4 w5(a) w6(a)", "w", 9},
		{"w1(a) c1 r2(a) a2 w3(a) c3 w4(a) c4 r5(a) w6(a)", "u", 9},
		{"r2(a) w1(a) w2(a) r1(a) c2", "wrul", 1},
		// One op is two of them.
		{"r1(a) w2(a) w3(a)", "wu", 1},
		{"r1(a) w1(a) w2(a)", "wu", 2},
		// The first op of all is an end.
		{"c1 w2(a) r3(a)", "r", 2},
		{"a1 r2(a) w3(a)", "u", 2},
	})
}

// TestMost: I1 at MaxOps ops, and what the last of them changes.
func TestMost(t *testing.T) {
	const last = api.MaxOps - 1
	var h []api.Op
	for at := range last {
		h = append(h, read(at%3+1, at%2+1))
	}
	h[0] = write(1, api.MaxItem)
	for _, k := range []struct {
		last  api.Op
		want  string
		first int
	}{
		{read(2, 1), "", 0},
		{commit(1), "", 0},
		{abort(2), "", 0},
		{write(1, api.MaxItem), "", 0},
		{write(2, api.MaxItem), "w", last},
		{read(2, api.MaxItem), "r", last},
		{write(3, 2), "u", last},
	} {
		g := append(slices.Clone(h), k.last)
		if x, err := ills.Of(g); err != nil || x != ill(k.want) {
			t.Errorf("Of, %v last: got %v %v, want %v", k.last, x, err, ill(k.want))
		}
		if at, err := ills.First(g); at != k.first || (err == nil) != (k.first > 0) {
			t.Errorf("First, %v last: got %v %v, want %v", k.last, at, err, k.first)
		}
	}
	// A Write is lost by a commit that is the last op of all, of a deal whose Read is the first.
	g := []api.Op{read(6, api.MaxItem), write(5, api.MaxItem), commit(5)}
	for len(g) < api.MaxOps-2 {
		g = append(g, read(4, 1))
	}
	g = append(g, write(6, api.MaxItem), commit(6))
	for end, want := range map[api.Op]string{commit(6): "ul", abort(6): "u", read(6, 1): "u"} {
		g[last] = end
		if x, err := ills.Of(g); err != nil || x != ill(want) {
			t.Errorf("Of, %v last: got %v %v, want %v", end, x, err, ill(want))
		}
	}
}

// over tells whether a deal has ended by then.
func over(past []api.Op, tx int) bool {
	return slices.Contains(past, commit(tx)) || slices.Contains(past, abort(tx))
}

// opByWords is I1 of one op, but for Lost, told without the program.
func opByWords(past []api.Op, o api.Op) (x api.Ills) {
	for tx := 1; tx <= api.MaxTx; tx++ {
		if tx == o.Tx || over(past, tx) {
			continue
		}
		wrote, saw := slices.Contains(past, write(tx, o.Item)), slices.Contains(past, read(tx, o.Item))
		x.DirtyWrite = x.DirtyWrite || o.What == api.Write && wrote
		x.DirtyRead = x.DirtyRead || o.What == api.Read && wrote
		x.Unrepeated = x.Unrepeated || o.What == api.Write && saw
	}
	return x
}

// lostByWords is Lost, told without the program: of each deal that commits and each item the other ones' Writes between its first Read and its last Write.
func lostByWords(h []api.Op) bool {
	for tx := 1; tx <= api.MaxTx; tx++ {
		for item := 1; item <= api.MaxItem; item++ {
			first, last := slices.Index(h, read(tx, item)), -1
			for at, o := range h {
				if o == write(tx, item) {
					last = at
				}
			}
			if first < 0 || last < first || !slices.Contains(h, commit(tx)) {
				continue
			}
			if slices.ContainsFunc(h[first:last], func(o api.Op) bool {
				return o.Tx != tx && o.What == api.Write && o.Item == item
			}) {
				return true
			}
		}
	}
	return false
}

// byWords holds what is told of a right history against the promise's words, and gives it.
func byWords(t *testing.T, h []api.Op) api.Ills {
	t.Helper()
	want, first := api.Ills{Lost: lostByWords(h)}, -1
	for at, o := range h {
		x := opByWords(h[:at], o)
		if x != (api.Ills{}) && first < 0 {
			first = at
		}
		want.DirtyWrite = want.DirtyWrite || x.DirtyWrite
		want.DirtyRead = want.DirtyRead || x.DirtyRead
		want.Unrepeated = want.Unrepeated || x.Unrepeated
	}
	got, err := ills.Of(h)
	if err != nil || got != want {
		t.Fatalf("Of %v: got %v %v, want %v", h, got, err, want)
	}
	at, err := ills.First(h)
	if first < 0 && (plain.Told(err) != api.ErrNone || at != 0) || first >= 0 && (err != nil || at != first) {
		t.Fatalf("First of %v: got %v %v, want %v", h, at, err, first)
	}
	return got
}

// byFaces holds what is told against chapter 6's faces (DOC.md, what is to be true of the whole): what is rigorous has no ill.
func byFaces(t *testing.T, h []api.Op, x api.Ills) {
	t.Helper()
	f, err := faces.Of(h)
	if err != nil {
		t.Fatal(err)
	}
	if f.Strict == (x.DirtyWrite || x.DirtyRead) || f.Rigorous != (x == api.Ills{}) {
		t.Fatalf("%v has the faces %v and the ills %v", h, f, x)
	}
}

// grow goes over all histories of at most n ops, each of which is one of these, and whose deals are done with an end.
func grow(n int, some []api.Op, see func(h []api.Op)) {
	var h []api.Op
	var more func()
	more = func() {
		see(h)
		if len(h) == n {
			return
		}
		for _, o := range some {
			if !over(h, o.Tx) {
				h = append(h, o)
				more()
				h = h[:len(h)-1]
			}
		}
	}
	more()
}

// kinds: which ills a history may have: any, but that none is Lost without one that is Unrepeated.
const kinds = 12

// TestSmall: I1: all small histories of two deals on two items, and of three on one. In five ops of two deals none is Lost with a DirtyRead and no DirtyWrite.
func TestSmall(t *testing.T) {
	for _, k := range []struct {
		deals, items, n, kinds int
	}{{2, 2, 5, kinds - 1}, {3, 1, 6, kinds}} {
		var some []api.Op
		for tx := 1; tx <= k.deals; tx++ {
			for item := 1; item <= k.items; item++ {
				some = append(some, read(tx, item), write(tx, item))
			}
			some = append(some, commit(tx), abort(tx))
		}
		had := map[api.Ills]int{}
		grow(k.n, some, func(h []api.Op) {
			x := byWords(t, h)
			byFaces(t, h, x)
			had[x]++
		})
		if len(had) != k.kinds {
			t.Errorf("%v: %v: not all that may be", k, had)
		}
	}
}

// TestGreat: I1: histories of six deals, by a rule that mixes numbers, as long as may be.
func TestGreat(t *testing.T) {
	mixed := uint64(1)
	roll := func(n int) int {
		mixed = mixed*6364136223846793005 + 1442695040888963407
		return int(mixed>>33) % n
	}
	had := map[api.Ills]int{}
	for i := range 20000 {
		var h []api.Op
		for range i % (api.MaxOps + 1) {
			o := api.Op{Tx: roll(api.MaxTx) + 1, What: roll(2) + 1, Item: roll(api.MaxItem) + 1}
			if roll(5) == 0 {
				o = api.Op{Tx: o.Tx, What: api.Commit + roll(2)}
			}
			if !over(h, o.Tx) {
				h = append(h, o)
			}
		}
		x := byWords(t, h)
		byFaces(t, h, x)
		had[x]++
	}
	if len(had) != kinds {
		t.Errorf("%v: not all that may be", had)
	}
}

// TestKept: what strict tells, which keeps all locks till deals end, has no ill, by any way (DOC.md, what is to be true of the whole).
func TestKept(t *testing.T) {
	some := []api.Op{read(1, 1), write(1, 1), commit(1), read(2, 1), write(2, 1), commit(2), write(3, 1)}
	grow(5, some, func(h []api.Op) {
		for way := api.Detect; way <= api.WoundWait; way++ {
			did, _, err := strict.Run(h, way)
			if err != nil {
				t.Fatal(err)
			}
			if x, err := ills.Of(did); err != nil || x != ill("") {
				t.Fatalf("%v by way %d of %v: got %v %v", did, way, h, x, err)
			}
			if at, err := ills.First(did); plain.Told(err) != api.ErrNone || at != 0 {
				t.Fatalf("%v by way %d of %v: got %v %v", did, way, h, at, err)
			}
		}
	})
}

// TestMemory: P2 and P4 of DOC.md: what is handed in stays, nothing behind its length is read or written, and two calls tell the same.
func TestMemory(t *testing.T) {
	// With deal 1's commit behind the length a Write would be lost, and with deal 5's Read there would be a dirty one.
	whole := append(ops(t, "r4(b) r1(a) w2(a) c2 w1(a)"), commit(1), write(3, 2), read(5, 1), api.Op{Tx: -7, What: 99, Item: 5})
	was := slices.Clone(whole)
	h := whole[:5]
	for range 3 {
		if x, err := ills.Of(h); err != nil || x != ill("u") {
			t.Fatalf("Of: got %v %v", x, err)
		}
		if at, err := ills.First(h); err != nil || at != 2 {
			t.Fatalf("First: got %v %v", at, err)
		}
		if x, err := ills.Of(whole); plain.Told(err) != api.ErrRange || x != ill("") {
			t.Fatalf("Of what is wrong: got %v %v", x, err)
		}
		if at, err := ills.First(whole[:2]); plain.Told(err) != api.ErrNone || at != 0 {
			t.Fatalf("First of none: got %v %v", at, err)
		}
		if !slices.Equal(whole, was) {
			t.Fatalf("what was handed in is now %v", whole)
		}
	}
	for _, none := range [][]api.Op{nil, {}, whole[:0]} {
		if x, err := ills.Of(none); err != nil || x != ill("") {
			t.Errorf("Of no ops: got %v %v", x, err)
		}
		if at, err := ills.First(none); plain.Told(err) != api.ErrNone || at != 0 {
			t.Errorf("First of no ops: got %v %v", at, err)
		}
	}
}
