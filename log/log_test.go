package log_test

import (
	"math"
	"slices"
	"strconv"
	"strings"
	"testing"

	"locklane/api"
	"locklane/history"
	"locklane/log"
	"locklane/plain"
	"locklane/play"
)

func read(tx, item int) api.Op  { return api.Op{Tx: tx, What: api.Read, Item: item} }
func write(tx, item int) api.Op { return api.Op{Tx: tx, What: api.Write, Item: item} }
func commit(tx int) api.Op      { return api.Op{Tx: tx, What: api.Commit} }
func abort(tx int) api.Op       { return api.Op{Tx: tx, What: api.Abort} }

// allOps that may be.
func allOps() []api.Op {
	var l []api.Op
	for tx := 1; tx <= api.MaxTx; tx++ {
		for item := 1; item <= api.MaxItem; item++ {
			l = append(l, read(tx, item), write(tx, item))
		}
		l = append(l, commit(tx), abort(tx))
	}
	return l
}

// ops of a text that is right.
func ops(t *testing.T, text string) []api.Op {
	t.Helper()
	h, err := history.Parse(text)
	if err != nil {
		t.Fatalf("%q: %v", text, err)
	}
	return h
}

// long is a history of n ops in which something is written, read and committed.
func long(n int) []api.Op {
	h := []api.Op{write(1, 1), read(2, 1), commit(1), write(2, 2)}
	for len(h) < n {
		h = append(h, read(3, 1))
	}
	return h[:n]
}

// logOf a history, of which the first ops are safe.
func logOf(t *testing.T, h []api.Op, safe int) *log.Log {
	t.Helper()
	l := log.New()
	for i, o := range h {
		if i == safe {
			must(t, l.Sync())
		}
		must(t, l.Do(o))
	}
	if safe == len(h) {
		must(t, l.Sync())
	}
	return l
}

func must(t *testing.T, err error) {
	t.Helper()
	if err != nil {
		t.Fatal(err)
	}
}

func is(t *testing.T, err error, want api.Errno) {
	t.Helper()
	if plain.Told(err) != want {
		t.Fatalf("got %v, want %v", err, want)
	}
}

// size of a record here: TestRecords holds that all have the same one.
func size() int {
	l := log.New()
	l.Do(commit(1))
	return l.Bytes()
}

// holds that a Log is just so; asked twice, as it changes nothing.
func holds(t *testing.T, l *log.Log, h []api.Op, bytes, safe int) {
	t.Helper()
	values, err := play.Values(h)
	must(t, err)
	for range 2 {
		if all := l.All(); !slices.Equal(all, h) {
			t.Fatalf("All: got %v, want %v", all, h)
		}
		if v := l.Values(); !slices.Equal(v, values) {
			t.Fatalf("Values of %v: got %v, want %v", h, v, values)
		}
		if l.Bytes() != bytes || l.Safe() != safe {
			t.Fatalf("%v: %d bytes, of which %d safe, want %d and %d", h, l.Bytes(), l.Safe(), bytes, safe)
		}
	}
}

// TestNew: L1: there is nothing at first, nothing to lose, and it does not stop.
func TestNew(t *testing.T) {
	l := log.New()
	holds(t, l, nil, 0, 0)
	if v := l.Values(); len(v) != api.MaxItem {
		t.Errorf("Values: got %v", v)
	}
	must(t, l.Sync())
	holds(t, l, nil, 0, 0)
	for _, keep := range []int{math.MinInt, -1, 0, 1, math.MaxInt} {
		l.Crash(keep)
		holds(t, l, nil, 0, 0)
	}
	must(t, l.Do(write(1, 1)))
	holds(t, l, []api.Op{write(1, 1)}, size(), 0)
}

// TestRecords: L1: each op that may be comes to a record of at least two bytes, wherever it stands, and is found in it again.
func TestRecords(t *testing.T) {
	n := size()
	if n < 2 {
		t.Fatalf("a record of %d bytes", n)
	}
	for _, o := range allOps() {
		for _, ahead := range [][]api.Op{nil, {read(o.Tx, 6)}, {write(o.Tx%api.MaxTx+1, 3), commit(o.Tx%api.MaxTx + 1)}} {
			l := logOf(t, ahead, 0)
			must(t, l.Do(o))
			h := append(slices.Clone(ahead), o)
			holds(t, l, h, len(h)*n, 0)
			l.Crash(math.MaxInt)
			holds(t, l, h, len(h)*n, len(h)*n)
		}
	}
}

// TestHistory: L1 and L2: what is told is the history so far, and chapter 7's of it, behind each op.
func TestHistory(t *testing.T) {
	for _, text := range []string{
		"", "c1", "w1(a) c1", "w1(a) a1 w2(a) c2",
		"w2(a) w3(a) r1(a) w1(b) c1 c2",
		"r1(f) w1(f) r1(f) w1(e) c1 r6(e) w6(a) c6 w5(a) a5",
		"w1(a) w2(b) r1(b) r2(a) w1(c) w2(d) c2 c1 w3(c) w3(d)",
	} {
		h, l := ops(t, text), log.New()
		for i, o := range h {
			must(t, l.Do(o))
			holds(t, l, h[:i+1], (i+1)*size(), 0)
		}
		must(t, l.Sync())
		l.Crash(0)
		holds(t, l, h, len(h)*size(), len(h)*size())
	}
}

// refusal is an op that Check refuses behind a history.
type refusal struct {
	name string
	h    []api.Op
	o    api.Op
	err  api.Errno
}

func refusals() []refusal {
	some := []api.Op{write(1, 1), commit(1), read(2, 1), abort(3)}
	return []refusal{
		{"alone, of no deal", nil, read(0, 1), api.ErrRange},
		{"alone, of nothing", nil, api.Op{}, api.ErrRange},
		{"deal 0", some, commit(0), api.ErrRange},
		{"deal below 0", some, read(-1, 1), api.ErrRange},
		{"deal beyond", some, read(api.MaxTx+1, 1), api.ErrRange},
		{"greatest deal", some, abort(math.MaxInt), api.ErrRange},
		{"least deal", some, abort(math.MinInt), api.ErrRange},
		{"a deal, if it were a byte", some, read(256+4, 1), api.ErrRange},
		{"what 0", some, api.Op{Tx: 2, Item: 1}, api.ErrRange},
		{"what below 0", some, api.Op{Tx: 2, What: -1, Item: 1}, api.ErrRange},
		{"what beyond", some, api.Op{Tx: 2, What: api.Abort + 1}, api.ErrRange},
		{"greatest what", some, api.Op{Tx: 2, What: math.MaxInt, Item: 1}, api.ErrRange},
		{"a Read, if it were a byte", some, api.Op{Tx: 2, What: 256 + api.Read, Item: 1}, api.ErrRange},
		{"item 0", some, read(2, 0), api.ErrRange},
		{"item below 0", some, write(2, -1), api.ErrRange},
		{"item beyond", some, read(2, api.MaxItem+1), api.ErrRange},
		{"greatest item", some, write(2, math.MaxInt), api.ErrRange},
		{"an item, if it were a byte", some, write(2, 256+1), api.ErrRange},
		{"commit of an item", some, api.Op{Tx: 2, What: api.Commit, Item: 1}, api.ErrRange},
		{"abort of an item", some, api.Op{Tx: 2, What: api.Abort, Item: 1}, api.ErrRange},
		{"commit of no item, if it were a byte", some, api.Op{Tx: 2, What: api.Commit, Item: 256}, api.ErrRange},
		{"behind its commit", some, read(1, 1), api.ErrState},
		{"behind its abort", some, write(3, 1), api.ErrState},
		{"commit twice", some, commit(1), api.ErrState},
		{"abort behind commit", some, abort(1), api.ErrState},
		{"ended, but of no item", some, read(1, 0), api.ErrRange},
		{"full", long(api.MaxOps), read(4, 1), api.ErrFull},
		{"full, of no deal", long(api.MaxOps), read(0, 1), api.ErrFull},
		{"full, behind its commit", long(api.MaxOps), read(1, 1), api.ErrFull},
	}
}

// TestRefused: L1: what Check refuses leaves no byte and takes no step.
func TestRefused(t *testing.T) {
	n := size()
	for _, k := range refusals() {
		t.Run(k.name, func(t *testing.T) {
			for safe := range len(k.h) + 1 {
				l := logOf(t, k.h, safe)
				for range 3 {
					is(t, l.Do(k.o), k.err)
					holds(t, l, k.h, len(k.h)*n, safe*n)
				}
				for _, fail := range []int{0, 1, 2} {
					l := logOf(t, k.h, safe)
					l.Fail(fail)
					is(t, l.Do(k.o), k.err)
					for range fail {
						must(t, l.Sync())
						is(t, l.Do(k.o), k.err)
					}
					is(t, l.Sync(), api.ErrState)
				}
			}
		})
	}
}

// TestRefusedStopped: L1: where it has stopped, that is told first.
func TestRefusedStopped(t *testing.T) {
	for _, k := range refusals() {
		l := logOf(t, k.h, 0)
		l.Fail(0)
		is(t, l.Sync(), api.ErrState)
		is(t, l.Do(k.o), api.ErrState)
		holds(t, l, k.h, len(k.h)*size(), 0)
	}
}

// TestFull: L1: MaxOps may be, and one more behind a Crash that lost one.
func TestFull(t *testing.T) {
	h, n := long(api.MaxOps), size()
	l := logOf(t, h, api.MaxOps-1)
	holds(t, l, h, api.MaxOps*n, (api.MaxOps-1)*n)
	is(t, l.Do(commit(5)), api.ErrFull)
	l.Crash(0)
	must(t, l.Do(commit(5)))
	is(t, l.Do(commit(6)), api.ErrFull)
	holds(t, l, append(h[:api.MaxOps-1:api.MaxOps-1], commit(5)), api.MaxOps*n, (api.MaxOps-1)*n)
}

// TestFail: L1: it stops just at the step that was said, whether that is a Do or a Sync; of a record half is there then, and else it is as it was ahead of it.
func TestFail(t *testing.T) {
	n := size()
	for fail := range 7 {
		// Each row is which of the steps are Syncs, by bits.
		for row := range 1 << (fail + 1) {
			l := log.New()
			l.Fail(fail)
			h, safe := []api.Op(nil), 0
			for at := range fail {
				if row>>at&1 == 1 {
					must(t, l.Sync())
					safe = len(h)
				} else {
					o := write(at%api.MaxTx+1, 1)
					must(t, l.Do(o))
					h = append(h, o)
				}
				holds(t, l, h, len(h)*n, safe*n)
			}
			half := 0
			if row>>fail&1 == 1 {
				is(t, l.Sync(), api.ErrState)
			} else {
				is(t, l.Do(read(1, 1)), api.ErrState)
				half = n / 2
			}
			// From then on nothing goes, whatever it is.
			for _, later := range []int{-1, 0, 5} {
				holds(t, l, h, len(h)*n+half, safe*n)
				is(t, l.Do(read(1, 1)), api.ErrState)
				is(t, l.Sync(), api.ErrState)
				is(t, l.Do(read(0, 0)), api.ErrState)
				l.Fail(later)
			}
			holds(t, l, h, len(h)*n+half, safe*n)
		}
	}
}

// TestFailNever: L1: below 0 it never stops, nor in reach where the number is great.
func TestFailNever(t *testing.T) {
	for _, fail := range []int{-1, -2, -40, math.MinInt, math.MinInt + 1, math.MaxInt, 1 << 32, -1 << 32, 400} {
		l := log.New()
		l.Fail(fail)
		for _, o := range long(api.MaxOps) {
			must(t, l.Do(o))
			for range 5 {
				must(t, l.Sync())
			}
		}
		holds(t, l, long(api.MaxOps), api.MaxOps*size(), api.MaxOps*size())
	}
}

// TestOwn: P2 of DOC.md: what All and Values hand out is the caller's own, to its end and behind it.
func TestOwn(t *testing.T) {
	h, n := long(6), size()
	l := logOf(t, h, 3)
	all, values := l.All(), l.Values()
	other, others := l.All(), l.Values()
	for i := range all {
		all[i] = abort(6)
	}
	for i := range values {
		values[i] = -1
	}
	_, _ = append(all, abort(6)), append(values, -1)
	clear(all[len(all):cap(all)])
	clear(values[len(values):cap(values)])
	want, err := play.Values(h)
	must(t, err)
	if !slices.Equal(other, h) || !slices.Equal(others, want) {
		t.Errorf("got %v and %v beside it", other, others)
	}
	holds(t, l, h, 6*n, 3*n)
	// What was handed out stays, whatever is done later.
	l.Crash(0)
	must(t, l.Do(write(6, 6)))
	must(t, l.Do(commit(6)))
	if !slices.Equal(other, h) || !slices.Equal(others, want) {
		t.Errorf("got %v and %v behind a Crash", other, others)
	}
	holds(t, l, append(h[:3:3], write(6, 6), commit(6)), 5*n, 3*n)
}

// TestApart: P2 of DOC.md: two Logs do not touch each other.
func TestApart(t *testing.T) {
	n := size()
	one, other := log.New(), log.New()
	must(t, one.Do(commit(1)))
	must(t, other.Do(write(1, 1)))
	one.Fail(0)
	must(t, other.Sync())
	must(t, other.Do(write(1, 2)))
	holds(t, other, []api.Op{write(1, 1), write(1, 2)}, 2*n, n)
	is(t, one.Do(write(2, 1)), api.ErrState)
	must(t, other.Do(commit(1)))
	holds(t, one, []api.Op{commit(1)}, n+n/2, 0)
	other.Fail(1)
	one.Crash(n)
	must(t, one.Sync())
	must(t, one.Do(commit(2)))
	must(t, other.Sync())
	is(t, other.Sync(), api.ErrState)
	must(t, one.Sync())
	one.Crash(0)
	holds(t, one, []api.Op{commit(1), commit(2)}, 2*n, 2*n)
	is(t, other.Do(commit(2)), api.ErrState)
	other.Crash(0)
	holds(t, other, []api.Op{write(1, 1), write(1, 2), commit(1)}, 3*n, 3*n)
}

// stands tells how many ops, how many bytes, and how many of those are safe, both counted in records: `2h` are two and a half.
func stands(l *log.Log) string {
	n := size()
	text := strconv.Itoa(len(l.All())) + "/" + strconv.Itoa(l.Bytes()/n)
	switch l.Bytes() % n {
	case 0:
	case n / 2:
		text += "h"
	default:
		text += "?"
	}
	if l.Safe()%n != 0 {
		return text + "/?"
	}
	return text + "/" + strconv.Itoa(l.Safe()/n)
}

// bytes of a text: `2` are those of two records, `2+` one more, `2-` one less, `h` those of half of one.
func bytes(text string) int {
	if text == "h" {
		return size() / 2
	}
	records := strings.TrimRight(text, "+-")
	k, _ := strconv.Atoi(records)
	beyond := text[len(records):]
	return k*size() + strings.Count(beyond, "+") - strings.Count(beyond, "-")
}

// do what a text says: an op, `sync`, `fail2`, or `crash2`; and the name of what went wrong.
func do(t *testing.T, l *log.Log, text string) string {
	t.Helper()
	var err error
	switch {
	case strings.HasPrefix(text, "fail"):
		steps, _ := strconv.Atoi(text[len("fail"):])
		l.Fail(steps)
	case strings.HasPrefix(text, "crash"):
		l.Crash(bytes(text[len("crash"):]))
	case text == "sync":
		err = l.Sync()
	default:
		err = l.Do(ops(t, text)[0])
	}
	if err != nil {
		return text + "=" + err.Error()
	}
	return text
}

// script is calls on a Log, one behind the other: `w1(a)=ErrState@2/2h/1` is what was done, what went wrong, and how it stands then; and which history is left.
type script struct{ calls, left string }

func goes(t *testing.T, all []script) {
	t.Helper()
	for _, k := range all {
		l := log.New()
		for _, w := range strings.Fields(k.calls) {
			call, _, _ := strings.Cut(strings.Split(w, "@")[0], "=")
			if got := do(t, l, call) + "@" + stands(l); got != w {
				t.Errorf("%q: got %q, want %q", k.calls, got, w)
			}
		}
		if h := l.All(); !slices.Equal(h, ops(t, k.left)) {
			t.Errorf("%q: left %v, want %q", k.calls, h, k.left)
		}
	}
}

// TestSync: L1: all that is there is safe then, and what comes later is not.
func TestSync(t *testing.T) {
	goes(t, []script{
		{"sync@0/0/0 w1(a)@1/1/0 sync@1/1/1 sync@1/1/1 crash0@1/1/1", "w1(a)"},
		{"w1(a)@1/1/0 w2(a)@2/2/0 sync@2/2/2 c1@3/3/2 c2@4/4/2 sync@4/4/4", "w1(a) w2(a) c1 c2"},
		{"w1(a)@1/1/0 sync@1/1/1 c1@2/2/1 r1(a)=ErrState@2/2/1 sync@2/2/2 r1(a)=ErrState@2/2/2", "w1(a) c1"},
	})
}

// TestFailAgain: L1: a new Fail takes the place of the one ahead, and counts from then on.
func TestFailAgain(t *testing.T) {
	goes(t, []script{
		{"fail0@0/0/0 fail-1@0/0/0 w1(a)@1/1/0 sync@1/1/1 c1@2/2/1", "w1(a) c1"},
		{"fail0@0/0/0 fail1@0/0/0 w1(a)@1/1/0 sync=ErrState@1/1/0", "w1(a)"},
		{"fail5@0/0/0 w1(a)@1/1/0 fail0@1/1/0 c1=ErrState@1/1h/0", "w1(a)"},
		{"fail2@0/0/0 w1(a)@1/1/0 fail2@1/1/0 w1(b)@2/2/0 sync@2/2/2 c1=ErrState@2/2h/2", "w1(a) w1(b)"},
		{"fail1@0/0/0 w1(a)@1/1/0 fail1@1/1/0 w1(b)@2/2/0 fail1@2/2/0 c1@3/3/0 fail-7@3/3/0 c2@4/4/0 c3@5/5/0", "w1(a) w1(b) c1 c2 c3"},
		{"fail-1@0/0/0 w1(a)@1/1/0 fail0@1/1/0 sync=ErrState@1/1/0", "w1(a)"},
		// It stops just once, and a new Fail does not wake it.
		{"fail0@0/0/0 w1(a)=ErrState@0/0h/0 fail-1@0/0h/0 w1(a)=ErrState@0/0h/0 sync=ErrState@0/0h/0", ""},
		{"fail0@0/0/0 sync=ErrState@0/0/0 fail3@0/0/0 w1(a)=ErrState@0/0/0 sync=ErrState@0/0/0", ""},
		// Fail itself is no step, nor is what only tells, nor what is refused.
		{"w1(a)@1/1/0 c1@2/2/0 fail1@2/2/0 r1(a)=ErrState@2/2/0 c1=ErrState@2/2/0 sync@2/2/2 r1(a)=ErrState@2/2/2 r2(a)=ErrState@2/2h/2", "w1(a) c1"},
	})
}

// TestCrash: L2: where it is cut, and what is left then.
func TestCrash(t *testing.T) {
	goes(t, []script{
		// Nothing is safe, all is, and some is.
		{"w1(a)@1/1/0 c1@2/2/0 crash0@0/0/0", ""},
		{"w1(a)@1/1/0 c1@2/2/0 crash1-@0/0/0", ""},
		{"w1(a)@1/1/0 c1@2/2/0 crash1@1/1/1", "w1(a)"},
		{"w1(a)@1/1/0 c1@2/2/0 crash1+@1/1/1", "w1(a)"},
		{"w1(a)@1/1/0 c1@2/2/0 crash2-@1/1/1", "w1(a)"},
		{"w1(a)@1/1/0 c1@2/2/0 crash2@2/2/2", "w1(a) c1"},
		{"w1(a)@1/1/0 c1@2/2/0 crash2+@2/2/2", "w1(a) c1"},
		{"w1(a)@1/1/0 c1@2/2/0 crash9@2/2/2", "w1(a) c1"},
		{"w1(a)@1/1/0 c1@2/2/0 crash-1@0/0/0", ""},
		{"w1(a)@1/1/0 c1@2/2/0 sync@2/2/2 crash-9@2/2/2", "w1(a) c1"},
		{"w1(a)@1/1/0 c1@2/2/0 sync@2/2/2 crash0@2/2/2", "w1(a) c1"},
		{"w1(a)@1/1/0 c1@2/2/0 sync@2/2/2 crash1@2/2/2", "w1(a) c1"},
		{"w1(a)@1/1/0 sync@1/1/1 c1@2/2/1 crash-1@1/1/1", "w1(a)"},
		{"w1(a)@1/1/0 sync@1/1/1 c1@2/2/1 crash0@1/1/1", "w1(a)"},
		{"w1(a)@1/1/0 sync@1/1/1 c1@2/2/1 crash1-@1/1/1", "w1(a)"},
		{"w1(a)@1/1/0 sync@1/1/1 c1@2/2/1 crash1@2/2/2", "w1(a) c1"},
		{"w1(a)@1/1/0 sync@1/1/1 c1@2/2/1 a2@3/3/1 crash1@2/2/2", "w1(a) c1"},
		// Behind a step that stopped within a record.
		{"w1(a)@1/1/0 fail0@1/1/0 c1=ErrState@1/1h/0 crash9@1/1/1", "w1(a)"},
		{"w1(a)@1/1/0 fail0@1/1/0 c1=ErrState@1/1h/0 crash0@0/0/0", ""},
		{"w1(a)@1/1/0 fail0@1/1/0 c1=ErrState@1/1h/0 crash1@1/1/1", "w1(a)"},
		{"w1(a)@1/1/0 fail0@1/1/0 c1=ErrState@1/1h/0 crash1+@1/1/1", "w1(a)"},
		{"w1(a)@1/1/0 fail0@1/1/0 c1=ErrState@1/1h/0 crash1-@0/0/0", ""},
		{"w1(a)@1/1/0 sync@1/1/1 fail0@1/1/1 c1=ErrState@1/1h/1 crashh@1/1/1", "w1(a)"},
		{"w1(a)@1/1/0 sync@1/1/1 fail0@1/1/1 c1=ErrState@1/1h/1 crash9@1/1/1 c1@2/2/1", "w1(a) c1"},
		{"w1(a)@1/1/0 sync@1/1/1 fail0@1/1/1 c1=ErrState@1/1h/1 crash0@1/1/1 c1@2/2/1 sync@2/2/2", "w1(a) c1"},
		// Behind a Sync that stopped nothing more is safe.
		{"w1(a)@1/1/0 sync@1/1/1 c1@2/2/1 fail0@2/2/1 sync=ErrState@2/2/1 crash0@1/1/1", "w1(a)"},
		{"w1(a)@1/1/0 sync@1/1/1 c1@2/2/1 fail0@2/2/1 sync=ErrState@2/2/1 crash1@2/2/2", "w1(a) c1"},
	})
}

// TestGoesOn: L2: behind a Crash it goes on, with the history that is left; what Fail said is forgotten.
func TestGoesOn(t *testing.T) {
	goes(t, []script{
		// A deal whose end was lost has not ended, and one whose end was kept has.
		{"w1(a)@1/1/0 sync@1/1/1 c1@2/2/1 w1(b)=ErrState@2/2/1 crash0@1/1/1 w1(b)@2/2/1 a1@3/3/1", "w1(a) w1(b) a1"},
		{"w1(a)@1/1/0 sync@1/1/1 c1@2/2/1 crash1@2/2/2 w1(b)=ErrState@2/2/2", "w1(a) c1"},
		{"w1(a)@1/1/0 fail0@1/1/0 c1=ErrState@1/1h/0 crash9@1/1/1 w1(b)@2/2/1 c1@3/3/1", "w1(a) w1(b) c1"},
		// Once what is left is safe, it stays.
		{"w1(a)@1/1/0 c1@2/2/0 crash1@1/1/1 crash0@1/1/1 crash-1@1/1/1", "w1(a)"},
		{"w1(a)@1/1/0 c1@2/2/0 crash1+@1/1/1 crash2@1/1/1", "w1(a)"},
		{"w1(a)@1/1/0 c1@2/2/0 crash1@1/1/1 w2(b)@2/2/1 crash0@1/1/1 c1@2/2/1", "w1(a) c1"},
		{"w1(a)@1/1/0 c1@2/2/0 crash0@0/0/0 crash9@0/0/0 w2(a)@1/1/0 crash1@1/1/1", "w2(a)"},
		// What is written behind a Crash does not join what was cut off.
		{"w1(a)@1/1/0 c1@2/2/0 crash2-@1/1/1 w2(b)@2/2/1 w3(c)@3/3/1 crash9@3/3/3", "w1(a) w2(b) w3(c)"},
		{"fail0@0/0/0 w1(a)=ErrState@0/0h/0 crash9@0/0/0 w2(b)@1/1/0 w3(c)@2/2/0 crash1@1/1/1", "w2(b)"},
		{"fail0@0/0/0 w1(a)=ErrState@0/0h/0 crash9@0/0/0 fail0@0/0/0 w2(b)=ErrState@0/0h/0 crash9@0/0/0 c3@1/1/0", "c3"},
		// Fail is forgotten, whether it had stopped or had not.
		{"fail0@0/0/0 crash0@0/0/0 w1(a)@1/1/0 sync@1/1/1", "w1(a)"},
		{"fail2@0/0/0 w1(a)@1/1/0 crash1@1/1/1 c1@2/2/1 sync@2/2/2 c2@3/3/2", "w1(a) c1 c2"},
		{"fail0@0/0/0 sync=ErrState@0/0/0 crash0@0/0/0 sync@0/0/0 w1(a)@1/1/0", "w1(a)"},
		{"fail0@0/0/0 sync=ErrState@0/0/0 fail0@0/0/0 crash0@0/0/0 sync@0/0/0 w1(a)@1/1/0 sync@1/1/1", "w1(a)"},
		{"fail0@0/0/0 sync=ErrState@0/0/0 fail1@0/0/0 crash0@0/0/0 sync@0/0/0 w1(a)@1/1/0 sync@1/1/1", "w1(a)"},
		{"crash0@0/0/0 fail0@0/0/0 w1(a)=ErrState@0/0h/0 crash0@0/0/0 fail1@0/0/0 w1(a)@1/1/0 w1(a)=ErrState@1/1h/0", "w1(a)"},
	})
}

// TestCrashEach: L2: each number of bytes that may be kept, and more, of all Logs of a few ops, whether they have stopped or not.
func TestCrashEach(t *testing.T) {
	n := size()
	for whole := range 6 {
		for safe := range whole + 1 {
			for _, stop := range []string{"", "c6", "sync"} {
				for _, keep := range keeps((whole-safe+1)*n + 2) {
					l := logOf(t, long(whole), safe)
					there := (whole - safe) * n
					if stop != "" {
						l.Fail(0)
						if got := do(t, l, stop); got != stop+"=ErrState" {
							t.Fatal(got)
						}
					}
					if stop == "c6" {
						there += n / 2
					}
					left := safe + max(0, min(keep, there))/n
					l.Crash(keep)
					holds(t, l, long(whole)[:left], left*n, left*n)
					must(t, l.Do(commit(6)))
					holds(t, l, append(long(whole)[:left], commit(6)), (left+1)*n, left*n)
					l.Crash(0)
					holds(t, l, long(whole)[:left], left*n, left*n)
				}
			}
		}
	}
}

// keeps are all numbers of bytes up to n, those below 0, and great ones.
func keeps(n int) []int {
	l := []int{math.MinInt, math.MinInt + 1, -1 << 32, -n, -2, -1, math.MaxInt, math.MaxInt - 1, 1 << 32}
	for keep := range n + 1 {
		l = append(l, keep)
	}
	return l
}
