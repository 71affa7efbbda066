package faces_test

import (
	"math"
	"slices"
	"testing"

	"locklane/api"
	"locklane/faces"
	"locklane/history"
	"locklane/plain"
	"locklane/serial"
	"locklane/view"
)

// ops of a text that is right.
func ops(t *testing.T, text string) []api.Op {
	t.Helper()
	h, err := history.Parse(text)
	if err != nil {
		t.Fatalf("%q: %v", text, err)
	}
	return h
}

func read(tx, item int) api.Op  { return api.Op{Tx: tx, What: api.Read, Item: item} }
func write(tx, item int) api.Op { return api.Op{Tx: tx, What: api.Write, Item: item} }
func commit(tx int) api.Op      { return api.Op{Tx: tx, What: api.Commit} }
func abort(tx int) api.Op       { return api.Op{Tx: tx, What: api.Abort} }

// sources of numbers, two by two.
func sources(n ...int) []api.Source {
	var s []api.Source
	for ; len(n) > 1; n = n[2:] {
		s = append(s, api.Source{At: n[0], From: n[1]})
	}
	return s
}

// The faces that a history may have: each has those of the one ahead of it, and one more.
var (
	none        = api.Faces{}
	recoverable = api.Faces{Recoverable: true}
	cautious    = api.Faces{Recoverable: true, Cautious: true}
	strict      = api.Faces{Recoverable: true, Cautious: true, Strict: true}
	rigorous    = api.Faces{Recoverable: true, Cautious: true, Strict: true, Rigorous: true}
)

// neat is a history of n ops that has all faces.
func neat(n int) []api.Op {
	h := []api.Op{write(1, 1), commit(1), read(2, 1), write(2, 1), commit(2)}
	for len(h) < n {
		h = append(h, read(3, 1))
	}
	return h[:n]
}

// with is neat, and these ops behind it.
func with(more ...api.Op) []api.Op { return append(neat(5), more...) }

// but is neat, of n ops, of which one is another op.
func but(n, at int, o api.Op) []api.Op {
	h := neat(n)
	h[at] = o
	return h
}

// TestWrong: F1, F2: both calls tell Check's error, and nothing with it.
func TestWrong(t *testing.T) {
	for _, k := range []struct {
		name string
		h    []api.Op
		err  api.Errno
	}{
		{"one more than MaxOps", neat(api.MaxOps + 1), api.ErrFull},
		{"far more", neat(1000), api.ErrFull},
		{"too many, and one of no deal", but(api.MaxOps+1, 0, read(0, 1)), api.ErrFull},
		{"too many, and one behind its commit", but(api.MaxOps+1, api.MaxOps, read(1, 1)), api.ErrFull},
		{"first of MaxOps", but(api.MaxOps, 0, read(7, 1)), api.ErrRange},
		{"last of MaxOps", but(api.MaxOps, api.MaxOps-1, read(1, 0)), api.ErrRange},
		{"alone, of no deal", []api.Op{commit(0)}, api.ErrRange},
		{"deal 0", with(read(0, 1)), api.ErrRange},
		{"deal below 0", with(read(-1, 1)), api.ErrRange},
		{"deal beyond", with(commit(api.MaxTx + 1)), api.ErrRange},
		{"abort of a deal beyond", with(abort(api.MaxTx + 1)), api.ErrRange},
		{"greatest deal", with(commit(math.MaxInt)), api.ErrRange},
		{"least deal", with(commit(math.MinInt)), api.ErrRange},
		{"what 0", with(api.Op{Tx: 3, Item: 1}), api.ErrRange},
		{"what below 0", with(api.Op{Tx: 3, What: -1, Item: 1}), api.ErrRange},
		{"what beyond", with(api.Op{Tx: 3, What: api.Abort + 1}), api.ErrRange},
		{"item 0", with(read(3, 0)), api.ErrRange},
		{"item below 0", with(write(3, -1)), api.ErrRange},
		{"item beyond", with(write(3, api.MaxItem+1)), api.ErrRange},
		{"greatest item", with(read(3, math.MaxInt)), api.ErrRange},
		{"least item", with(write(3, math.MinInt)), api.ErrRange},
		{"commit of an item", with(api.Op{Tx: 3, What: api.Commit, Item: 1}), api.ErrRange},
		{"abort of an item", with(api.Op{Tx: 3, What: api.Abort, Item: 1}), api.ErrRange},
		{"behind its commit", with(read(1, 1)), api.ErrState},
		{"behind its abort", with(abort(3), read(3, 1)), api.ErrState},
		{"commit twice", with(commit(2)), api.ErrState},
		{"abort, then commit", with(abort(3), commit(3)), api.ErrState},
		{"alone, commit twice", []api.Op{commit(1), commit(1)}, api.ErrState},
		{"range, then state", with(read(0, 1), read(1, 1)), api.ErrRange},
		{"state, then range", with(read(1, 1), read(0, 1)), api.ErrState},
	} {
		if s, err := faces.From(k.h); plain.Told(err) != k.err || len(s) > 0 {
			t.Errorf("From, %s: got %v %v, want %v", k.name, s, err, k.err)
		}
		if f, err := faces.Of(k.h); plain.Told(err) != k.err || f != none {
			t.Errorf("Of, %s: got %v %v, want %v", k.name, f, err, k.err)
		}
	}
	if f, err := faces.Of(neat(5)); err != nil || f != rigorous {
		t.Errorf("Of, but for what is wrong: got %v %v, want %v", f, err, rigorous)
	}
}

// TestFrom: F1.
func TestFrom(t *testing.T) {
	for _, k := range []struct {
		text string
		want []api.Source
	}{
		{"", nil},
		// Nobody reads.
		{"c1", nil},
		{"a1", nil},
		{"w1(a) w2(a) c1 a2", nil},
		// Nobody wrote it, or not yet, or another item.
		{"r1(a)", sources(0, 0)},
		{"r6(f) r6(e) c6", sources(0, 0, 1, 0)},
		{"r1(a) w2(a) c1 c2", sources(0, 0)},
		{"r1(a) w1(a) c1", sources(0, 0)},
		{"w2(b) r1(a) c1 c2", sources(1, 0)},
		{"w2(f) w2(b) c2 r1(a) r1(e)", sources(3, 0, 4, 0)},
		{"w1(a) r1(b)", sources(1, 0)},
		// The deal itself wrote it.
		{"w1(a) r1(a)", sources(1, 1)},
		{"w1(a) r1(a) a1", sources(1, 1)},
		{"w2(a) w1(a) r1(a) c1 c2", sources(2, 1)},
		{"w2(a) w1(a) a2 r1(a)", sources(3, 1)},
		{"r1(a) w1(a) r1(a) c1", sources(0, 0, 2, 1)},
		// Another one wrote it, who has committed by then, does so later, or does not end.
		{"w1(a) c1 r2(a) c2", sources(2, 1)},
		{"w1(a) r2(a) c1 c2", sources(1, 1)},
		{"w1(a) r2(a) c2", sources(1, 1)},
		{"w1(a) r2(a)", sources(1, 1)},
		{"w6(f) r1(f) c1 c6", sources(1, 6)},
		{"w1(a) w2(a) r1(a) c1 c2", sources(2, 2)},
		{"w1(a) w2(a) w3(a) w2(a) r4(a)", sources(4, 2)},
		{"w1(a) r3(a) w2(a) r3(a) c1 c2 c3", sources(1, 1, 3, 2)},
		{"w1(a) w2(b) r3(b) r3(a) r3(c)", sources(2, 2, 3, 1, 4, 0)},
		// It counts who wrote last, not who committed last.
		{"w1(a) w2(a) c2 c1 r3(a)", sources(4, 2)},
		{"w1(a) w2(a) c1 r3(a)", sources(3, 2)},
		// One wrote it who had aborted by then.
		{"w1(a) a1 r2(a)", sources(2, 0)},
		{"w1(a) w1(a) a1 r2(a) c2", sources(3, 0)},
		{"w3(a) w1(a) a1 r2(a)", sources(3, 3)},
		{"w3(a) c3 w1(a) a1 r2(a)", sources(4, 3)},
		{"w1(a) w3(a) a1 r2(a)", sources(3, 3)},
		{"w1(a) w3(a) w1(a) a1 r2(a)", sources(4, 3)},
		{"w2(a) w1(a) a1 r2(a)", sources(3, 2)},
		{"w3(b) w1(a) a1 r2(a)", sources(3, 0)},
		// Several had.
		{"w4(a) w3(a) w1(a) a1 a3 r2(a)", sources(5, 4)},
		{"w3(a) w1(a) a3 a1 r2(a)", sources(4, 0)},
		// Who aborted without having written takes nothing away.
		{"w1(a) a3 r2(a)", sources(2, 1)},
		{"w1(a) w3(b) a3 r2(a) r2(b)", sources(3, 1, 4, 0)},
		// One wrote it who aborts only later: it counts.
		{"w1(a) r2(a) a1", sources(1, 1)},
		{"w1(a) r2(a) c2 a1", sources(1, 1)},
		{"w3(a) w1(a) r2(a) a1", sources(2, 1)},
		{"w3(a) c3 w1(a) r2(a) a1", sources(3, 1)},
		// It counts till it aborts, and no longer.
		{"w1(a) r2(a) a1 r2(a)", sources(1, 1, 3, 0)},
		{"w3(a) w1(a) r2(a) a1 r2(a)", sources(2, 1, 4, 3)},
		{"w3(a) w1(a) r2(a) a1 r2(a) a3 r2(a)", sources(2, 1, 4, 3, 6, 0)},
		// Who reads aborts, or does not end: its Reads are told as all others.
		{"w1(a) c1 r2(a) a2", sources(2, 1)},
		{"w1(a) r2(a) a2 r3(a) c3", sources(1, 1, 3, 1)},
		// The first op may be an end.
		{"a1 w2(a) r3(a) c2", sources(2, 2)},
		{"c1 w2(a) r3(a) a2 r3(a)", sources(2, 2, 4, 0)},
		// Places are those of the whole history, not of what is done.
		{"r4(a) w4(a) r5(a) r1(a) a4 r2(a) c2 c1", sources(0, 0, 2, 4, 3, 4, 5, 0)},
		{"r4(b) w1(a) w4(a) r2(a) w4(b) c4 r1(b) c1 r2(b) a2", sources(0, 0, 3, 4, 6, 4, 8, 4)},
	} {
		got, err := faces.From(ops(t, k.text))
		if err != nil || !slices.Equal(got, k.want) {
			t.Errorf("%q: got %v %v, want %v", k.text, got, err, k.want)
		}
	}
}

// TestOf: F2: histories that just have a face, and beside them the next ones that just have not.
func TestOf(t *testing.T) {
	for _, k := range []struct {
		text string
		want api.Faces
	}{
		{"", rigorous},
		{"c1", rigorous},
		{"a1", rigorous},
		{"r1(a)", rigorous},
		{"w1(a)", rigorous},
		// One deal alone, or each on items of its own.
		{"r1(a) w1(a) r1(a) w1(a) c1", rigorous},
		{"r1(a) w1(a) r1(a) w1(a)", rigorous},
		{"w1(a) r2(b) w2(b) r1(a) w3(c) w1(a) c1 a2", rigorous},
		// All read.
		{"r1(a) r2(a) r3(a) c2 r1(a) c1", rigorous},
		// Nobody ends.
		{"w1(a) w2(b) r1(a) r2(b)", rigorous},
		{"r1(a) w2(a)", strict},
		{"w1(a) w2(a)", cautious},
		{"w1(a) r2(a)", recoverable},
		// Some abort and some do not end.
		{"w1(a) a1 r2(a) w2(a) a2 w3(a)", rigorous},
		{"r1(a) w2(a) a2 r3(a)", strict},
		{"w1(a) w2(a) a2 r1(a)", cautious},
		{"w1(a) r2(a) a2 w3(b)", recoverable},

		// Recoverable: who reads from another one commits behind it, or ahead of it.
		{"w1(a) r2(a) c1 c2", recoverable},
		{"w1(a) r2(a) c2 c1", none},
		{"w1(a) r2(a) w1(b) r2(c) c1 r2(d) c2", recoverable},
		// The other one aborts, behind it or ahead of it, or does not end.
		{"w1(a) r2(a) c2 a1", none},
		{"w1(a) r2(a) a1 c2", none},
		{"w1(a) r2(a) c2", none},
		// Who reads aborts, or does not end.
		{"w1(a) r2(a) a2 c1", recoverable},
		{"w1(a) r2(a) a1 a2", recoverable},
		{"w1(a) r2(a) a2", recoverable},
		{"w1(a) r2(a) c1", recoverable},
		{"w1(a) r2(a) a1", recoverable},
		// It reads from several: it must be behind all.
		{"w1(a) w3(b) r2(a) r2(b) c1 c3 c2", recoverable},
		{"w1(a) w3(b) r2(a) r2(b) c3 c2 c1", none},
		{"w1(a) w3(b) r2(a) r2(b) c1 c2 c3", none},
		{"w1(a) w3(b) r2(a) r2(b) c1 a3 c2", none},
		// Several read: each that commits must be behind.
		{"w1(a) r2(a) r3(a) c1 c2 c3", recoverable},
		{"w1(a) r2(a) r3(a) c2 c1 c3", none},
		{"w1(a) r2(a) r3(a) c3 c1 c2", none},
		{"w1(a) r2(a) r3(a) a2 c1 c3", recoverable},
		{"w1(a) r2(a) w2(b) r3(b) c1 c2 c3", recoverable},
		{"w1(a) r2(a) w2(b) r3(b) c1 c3 c2", none},
		// From each other: one of them is ahead.
		{"w1(a) w2(b) r1(b) r2(a) c1 c2", none},
		{"w1(a) w2(b) r1(b) r2(a) c1 a2", none},
		{"w1(a) w2(b) r1(b) r2(a) a1 a2", recoverable},
		// It reads from itself, or from nobody: it waits for none.
		{"w1(a) r1(a) c1", rigorous},
		{"w2(a) w1(a) r1(a) c1 c2", cautious},
		{"w2(a) w1(a) r1(a) c1", cautious},
		{"w2(b) r1(a) c1 c2", rigorous},
		// It reads from the last one that wrote, not from the one ahead of it.
		{"w3(a) w1(a) r2(a) c1 c2 c3", recoverable},
		{"w3(a) w1(a) r2(a) c3 c2 c1", none},
		// By then the last one had aborted: it reads from the one ahead of it.
		{"w3(a) w1(a) a1 r2(a) c3 c2", recoverable},
		{"w3(a) w1(a) a1 r2(a) c2 c3", none},
		{"w3(a) w1(a) r2(a) a1 c3 c2", none},

		// Cautious: what is read was committed by then, or is just behind.
		{"w1(a) c1 r2(a) c2", rigorous},
		{"w1(a) c1 r2(a)", rigorous},
		{"w1(a) c1 r2(a) a2", rigorous},
		{"w1(a) r2(a) c1 a2", recoverable},
		{"w1(a) c1 r2(a) w3(a) r2(a) c3 c2", recoverable},
		{"w1(a) c1 r2(a) w3(a) c3 r2(a) c2", strict},
		// Aborted by then: it is not what is read.
		{"w1(a) a1 r2(a) c2", rigorous},
		{"w1(a) c1 w3(a) a3 r2(a) c2", rigorous},
		{"w1(a) c1 w3(a) r2(a) a3 a2", recoverable},
		{"w1(a) w3(a) a3 r2(a) c1 c2", recoverable},
		{"w1(a) w3(a) a3 c1 r2(a) c2", cautious},
		{"w1(a) w3(a) a1 r2(a) c3 c2", recoverable},
		{"w1(a) w3(a) c3 r2(a) a1 c2", cautious},
		{"w1(a) w3(a) c1 r2(a) c3 c2", recoverable},
		// It reads what it wrote itself, over what another one wrote that has not ended.
		{"w1(a) w2(a) r2(a) c2 c1", cautious},

		// Strict: an item is read behind a Write of one who has not ended, has committed, has aborted.
		{"w1(f) r6(f) c1 c6", recoverable},
		{"w1(f) c1 r6(f) c6", rigorous},
		{"w1(f) a1 r6(f) c6", rigorous},
		// It is written behind such a Write.
		{"w1(f) w6(f) c1 c6", cautious},
		{"w1(f) c1 w6(f) c6", rigorous},
		{"w1(f) a1 w6(f) c6", rigorous},
		{"w1(f) w6(f) a1 c6", cautious},
		{"w1(f) w6(f) c6 c1", cautious},
		{"w1(f) w6(f)", cautious},
		// Another item, or the same deal.
		{"w1(f) w6(e) c1 c6", rigorous},
		{"w1(f) w1(f) c1", rigorous},
		// One of several that wrote has not ended.
		{"w1(a) c1 w2(a) c2 w3(a) w4(a) c3 c4", cautious},
		{"w1(a) c1 w2(a) c2 w3(a) c3 w4(a) c4", rigorous},
		{"w1(a) r1(a) w1(b) c1 w2(a) w3(b) w2(b) c2 c3", cautious},

		// Rigorous: an item is written behind a Read of one who has not ended, has committed, has aborted.
		{"r1(a) w2(a) c1 c2", strict},
		{"r1(a) c1 w2(a) c2", rigorous},
		{"r1(a) a1 w2(a) c2", rigorous},
		{"r1(a) w2(a) a1 c2", strict},
		{"r1(a) w2(a) c2 c1", strict},
		{"r1(a) w2(a) a2", strict},
		// Its own Read, another item, or a Read behind it.
		{"r1(a) w1(a) c1", rigorous},
		{"r1(a) w2(b) c1 c2", rigorous},
		{"r1(a) r2(a) c1 w2(a) c2", rigorous},
		{"r1(a) r2(a) w2(a) c1 c2", strict},
		{"r1(a) r2(a) r3(a) c1 a3 w2(a) c2", rigorous},
		{"r1(a) r2(a) r3(a) c1 w2(a) a3 c2", strict},
		// Nothing is written behind a Read of one who has not ended, but it is not strict.
		{"w1(a) w2(a) c1 c2 r3(a) c3", cautious},
		{"w1(a) r2(a) c1 c2 w3(a) c3", recoverable},
		// All behind it is well: the first is not.
		{"w1(a) r2(a) c2 c1 w3(b) c3 r4(b) c4", none},
		// The first op may be an end.
		{"c1 w2(a) c2 w3(a)", rigorous},
		{"a1 w2(a) w3(a)", cautious},
		{"c1 w2(a) r3(a)", recoverable},
	} {
		got, err := faces.Of(ops(t, k.text))
		if err != nil || got != k.want {
			t.Errorf("%q: got %v %v, want %v", k.text, got, err, k.want)
		}
	}
}

// TestMost: F1, F2 at MaxOps ops, and what the last of them changes.
func TestMost(t *testing.T) {
	h := []api.Op{write(1, api.MaxItem)}
	var want []api.Source
	for at := 1; at < api.MaxOps-1; at++ {
		h = append(h, read(at%5+2, api.MaxItem))
		want = append(want, api.Source{At: at, From: 1})
	}
	for _, k := range []struct {
		last api.Op
		more []api.Source
		want api.Faces
	}{
		{read(1, api.MaxItem), sources(api.MaxOps-1, 1), recoverable},
		{read(6, 1), sources(api.MaxOps-1, 0), recoverable},
		{write(1, api.MaxItem), nil, recoverable},
		{commit(1), nil, recoverable},
		{abort(1), nil, recoverable},
		{commit(6), nil, none},
		{abort(6), nil, recoverable},
	} {
		g := append(slices.Clone(h), k.last)
		if s, err := faces.From(g); err != nil || !slices.Equal(s, slices.Concat(want, k.more)) {
			t.Errorf("From, %v last: got %v %v, want %v and %v", k.last, s, err, want, k.more)
		}
		if f, err := faces.Of(g); err != nil || f != k.want {
			t.Errorf("Of, %v last: got %v %v, want %v", k.last, f, err, k.want)
		}
	}
	if f, err := faces.Of(neat(api.MaxOps)); err != nil || f != rigorous {
		t.Errorf("Of, all neat: got %v %v, want %v", f, err, rigorous)
	}
	if f, err := faces.Of(but(api.MaxOps, api.MaxOps-1, write(4, 1))); err != nil || f != strict {
		t.Errorf("Of, written at last: got %v %v, want %v", f, err, strict)
	}
}

// fromByWords is F1, told without the program: of the ops ahead of a Read those of deals that abort there are struck out.
func fromByWords(h []api.Op) (from []api.Source) {
	for at, o := range h {
		if o.What != api.Read {
			continue
		}
		tx := 0
		for _, p := range h[:at] {
			if p.What == api.Write && p.Item == o.Item && !slices.Contains(h[:at], abort(p.Tx)) {
				tx = p.Tx
			}
		}
		from = append(from, api.Source{At: at, From: tx})
	}
	return from
}

// over tells whether a deal has ended by then.
func over(past []api.Op, tx int) bool {
	return slices.Contains(past, commit(tx)) || slices.Contains(past, abort(tx))
}

// ofByWords is F2, told without the program, face by face.
func ofByWords(h []api.Op) api.Faces {
	f := rigorous
	for _, s := range fromByWords(h) {
		tx := h[s.At].Tx
		if s.From == 0 || s.From == tx {
			continue
		}
		if end := slices.Index(h, commit(tx)); end >= 0 && !slices.Contains(h[:end], commit(s.From)) {
			f.Recoverable = false
		}
		if !slices.Contains(h[:s.At], commit(s.From)) {
			f.Cautious = false
		}
	}
	for at, o := range h {
		for tx := 1; tx <= api.MaxTx; tx++ {
			if tx == o.Tx || o.Item == 0 || over(h[:at], tx) {
				continue
			}
			if slices.Contains(h[:at], write(tx, o.Item)) {
				f.Strict, f.Rigorous = false, false
			}
			if o.What == api.Write && slices.Contains(h[:at], read(tx, o.Item)) {
				f.Rigorous = false
			}
		}
	}
	return f
}

// byWords holds what is told of a right history against the promises' words, and gives it.
func byWords(t *testing.T, h []api.Op) api.Faces {
	t.Helper()
	if s, err := faces.From(h); err != nil || !slices.Equal(s, fromByWords(h)) {
		t.Fatalf("From of %v: got %v %v, want %v", h, s, err, fromByWords(h))
	}
	f, err := faces.Of(h)
	if err != nil || f != ofByWords(h) {
		t.Fatalf("Of %v: got %v %v, want %v", h, f, err, ofByWords(h))
	}
	if !slices.Contains([]api.Faces{none, recoverable, cautious, strict, rigorous}, f) {
		t.Fatalf("Of %v: %v: one is not in the next", h, f)
	}
	return f
}

// grow goes over all histories of at most n ops, each of which is one of these, and whose deals are done with an end.
func grow(n int, some []api.Op, see func(h []api.Op)) {
	var h []api.Op
	var more func()
	more = func() {
		see(h)
		if len(h) == n {
			return
		}
		for _, o := range some {
			if !over(h, o.Tx) {
				h = append(h, o)
				more()
				h = h[:len(h)-1]
			}
		}
	}
	more()
}

// TestSmall: F1, F2: all small histories of two deals on two items, and of three on one.
func TestSmall(t *testing.T) {
	for _, k := range []struct {
		deals, items, n int
	}{{2, 2, 5}, {3, 1, 5}} {
		var some []api.Op
		for tx := 1; tx <= k.deals; tx++ {
			for item := 1; item <= k.items; item++ {
				some = append(some, read(tx, item), write(tx, item))
			}
			some = append(some, commit(tx), abort(tx))
		}
		had := map[api.Faces]int{}
		grow(k.n, some, func(h []api.Op) { had[byWords(t, h)]++ })
		if len(had) != 5 {
			t.Errorf("%v: %v: some are never so", k, had)
		}
	}
}

// TestGreat: F1, F2: histories of six deals, by a rule that mixes numbers, as long as may be.
func TestGreat(t *testing.T) {
	mixed := uint64(1)
	roll := func(n int) int {
		mixed = mixed*6364136223846793005 + 1442695040888963407
		return int(mixed>>33) % n
	}
	had := map[api.Faces]int{}
	for i := range 20000 {
		var h []api.Op
		for range i % (api.MaxOps + 1) {
			o := api.Op{Tx: roll(api.MaxTx) + 1, What: roll(2) + 1, Item: roll(api.MaxItem) + 1}
			if roll(6) == 0 {
				o = api.Op{Tx: o.Tx, What: api.Commit + roll(2)}
			}
			if !over(h, o.Tx) {
				h = append(h, o)
			}
		}
		f := byWords(t, h)
		had[f]++
		// What is rigorous has an order (DOC.md, what is to be true of the whole).
		if _, err := serial.Order(h); f.Rigorous && err != nil {
			t.Errorf("%v is rigorous, and has no order: %v", h, err)
		}
	}
	for _, f := range []api.Faces{none, recoverable, cautious, strict, rigorous} {
		if had[f] < 200 {
			t.Errorf("%d of 20000 are %v: too few of a kind to tell", had[f], f)
		}
	}
}

// TestAllCommit: F1: where all deals commit, it is chapter 5's Reads.
func TestAllCommit(t *testing.T) {
	some := []api.Op{read(1, 1), write(1, 1), read(2, 1), write(2, 1), write(3, 1)}
	grow(5, some, func(h []api.Op) {
		h = append(slices.Clone(h), commit(3), commit(1), commit(2))
		reads, err := view.Reads(h)
		if err != nil {
			t.Fatal(err)
		}
		if s, err := faces.From(h); err != nil || !slices.Equal(s, reads) {
			t.Fatalf("From of %v: got %v %v, want %v", h, s, err, reads)
		}
	})
}

// TestMemory: P2 and P4 of DOC.md: what is handed in stays, nothing behind its length is read or written, and what comes out is fresh, call by call.
func TestMemory(t *testing.T) {
	// With deal 1's commit behind the length it would not be recoverable.
	whole := append(ops(t, "w3(a) r1(a) r4(b) r3(a)"), commit(1), api.Op{Tx: -7, What: 99, Item: 5})
	was := slices.Clone(whole)
	h := whole[:4]
	for range 2 {
		s, err := faces.From(h)
		if err != nil || !slices.Equal(s, sources(1, 3, 2, 0, 3, 3)) {
			t.Fatalf("From: got %v %v", s, err)
		}
		if f, err := faces.Of(h); err != nil || f != recoverable {
			t.Fatalf("Of: got %v %v", f, err)
		}
		clear(s[:cap(s)])
		if !slices.Equal(whole, was) {
			t.Fatalf("what was handed in is now %v", whole)
		}
	}
}
