package locks_test

import (
	"cmp"
	"maps"
	"math"
	"slices"
	"strconv"
	"strings"
	"testing"

	"locklane/api"
	"locklane/locks"
	"locklane/plain"
)

func shared(tx, item int) api.Lock { return api.Lock{Tx: tx, Item: item, Mode: api.Shared} }
func alone(tx, item int) api.Lock  { return api.Lock{Tx: tx, Item: item, Mode: api.Alone} }

// word of a lock: `s1a` is Shared, of deal 1 on item 1, `x2b` Alone, of deal 2 on item 2.
func word(l api.Lock) string {
	return string("?sx"[l.Mode]) + strconv.Itoa(l.Tx) + string(rune('a'+l.Item-1))
}

// lockOf a word.
func lockOf(w string) api.Lock {
	l := shared(int(w[1]-'0'), int(w[2]-'a')+1)
	if w[0] == 'x' {
		l.Mode = api.Alone
	}
	return l
}

func words(l []api.Lock) string {
	var w []string
	for _, k := range l {
		w = append(w, word(k))
	}
	return strings.Join(w, ",")
}

func numbers(l []int) string {
	var w []string
	for _, n := range l {
		w = append(w, strconv.Itoa(n))
	}
	return strings.Join(w, ",")
}

// step is a call and what it told: `s1a=held`, `s1a=waits`, `s1a=ErrClash` of an Ask; `f1=s2a,x3b` of a Free; `s1a?2,3` of a For.
func step(t *locks.Table, w string) string {
	if do, _, is := strings.Cut(w, "?"); is {
		deals, err := t.For(lockOf(do))
		if err != nil {
			return do + "?" + err.Error()
		}
		return do + "?" + numbers(deals)
	}
	do, _, _ := strings.Cut(w, "=")
	if do[0] == 'f' {
		came, err := t.Free(int(do[1] - '0'))
		if err != nil {
			return do + "=" + err.Error()
		}
		return do + "=" + words(came)
	}
	is, err := t.Ask(lockOf(do))
	switch {
	case err != nil && is:
		return do + "=held and " + err.Error()
	case err != nil:
		return do + "=" + err.Error()
	case is:
		return do + "=held"
	}
	return do + "=waits"
}

// said is how a script goes, and what stands at last.
type said struct{ script, held, waits string }

// goes holds scripts against what is told, in a table each.
func goes(t *testing.T, all []said) {
	t.Helper()
	for _, k := range all {
		table := locks.New()
		for _, w := range strings.Fields(k.script) {
			if got := step(table, w); got != w {
				t.Errorf("%q: got %q, want %q", k.script, got, w)
			}
		}
		if got := words(table.Held()); got != k.held {
			t.Errorf("%q: Held: got %q, want %q", k.script, got, k.held)
		}
		if got := words(table.Waits()); got != k.waits {
			t.Errorf("%q: Waits: got %q, want %q", k.script, got, k.waits)
		}
	}
}

// TestNone: L1 and L2: a table that has none.
func TestNone(t *testing.T) {
	goes(t, []said{
		{"", "", ""},
		{"f1= f2= f3= f4= f5= f6=", "", ""},
		{"s1a? x1a? s6f? x6f?", "", ""},
		{"s1a? s1a=held f1= s1a? x2a?", "", ""},
		{"x6f=held", "x6f", ""},
		{"s6f=held", "s6f", ""},
	})
}

// TestRange: L1 and L2: numbers that may not be, in an empty table and in one that has some, which stays as it was.
func TestRange(t *testing.T) {
	full := []string{"s1a", "x2a", "s3b", "s4b", "x3b", "s5c", "x6c", "x5d"}
	for _, asked := range [][]string{nil, full} {
		table := locks.New()
		for _, w := range asked {
			if _, err := table.Ask(lockOf(w)); err != nil {
				t.Fatal(err)
			}
		}
		held, waits := table.Held(), table.Waits()
		for _, l := range wrongLocks() {
			if is, err := table.Ask(l); is || plain.Told(err) != api.ErrRange {
				t.Errorf("Ask %v: got %v %v", l, is, err)
			}
			if deals, err := table.For(l); len(deals) > 0 || plain.Told(err) != api.ErrRange {
				t.Errorf("For %v: got %v %v", l, deals, err)
			}
		}
		for _, tx := range []int{0, -1, api.MaxTx + 1, 61, math.MinInt, math.MaxInt} {
			if came, err := table.Free(tx); len(came) > 0 || plain.Told(err) != api.ErrRange {
				t.Errorf("Free %d: got %v %v", tx, came, err)
			}
		}
		if !slices.Equal(table.Held(), held) || !slices.Equal(table.Waits(), waits) {
			t.Errorf("%v: now %v %v", asked, table.Held(), table.Waits())
		}
	}
}

// wrongLocks: one number of each may not be, or all. Of deal 2, which Waits in the full table, it is ErrRange too: that is named ahead of ErrClash.
func wrongLocks() []api.Lock {
	var l []api.Lock
	for _, tx := range []int{0, -1, api.MaxTx + 1, math.MinInt, math.MaxInt} {
		l = append(l, shared(tx, 1), alone(tx, api.MaxItem))
	}
	for _, item := range []int{0, -1, api.MaxItem + 1, math.MinInt, math.MaxInt} {
		for _, tx := range []int{1, 2, api.MaxTx} {
			l = append(l, shared(tx, item), alone(tx, item))
		}
	}
	for _, mode := range []int{0, -1, api.Alone + 1, math.MinInt, math.MaxInt} {
		for _, tx := range []int{1, 2, api.MaxTx} {
			l = append(l, api.Lock{Tx: tx, Item: 1, Mode: mode}, api.Lock{Tx: tx, Item: api.MaxItem, Mode: mode})
		}
	}
	return append(l, api.Lock{}, api.Lock{Tx: -1, Item: -1, Mode: -1}, api.Lock{Tx: 7, Item: 7, Mode: 3})
}

// TestAsk: L1.
func TestAsk(t *testing.T) {
	goes(t, []said{
		// Two deals on one item: at odds, but if both are Shared.
		{"s1a=held s2a=held", "s1a,s2a", ""},
		{"s1a=held x2a=waits", "s1a", "x2a"},
		{"x1a=held s2a=waits", "x1a", "s2a"},
		{"x1a=held x2a=waits", "x1a", "x2a"},
		{"s6f=held s1f=held s3f=held", "s6f,s1f,s3f", ""},
		// On unlike items nobody is at odds, and a deal may hold all.
		{"x1a=held x2b=held x3c=held x4d=held x5e=held x6f=held", "x1a,x2b,x3c,x4d,x5e,x6f", ""},
		{"x1a=held s1b=held x1c=held s1d=held x1e=held s1f=held", "x1a,s1b,x1c,s1d,x1e,s1f", ""},
		// It Holds it already, in the same mode.
		{"s1a=held s1a=held", "s1a", ""},
		{"x1a=held x1a=held", "x1a", ""},
		{"s1a=held s2a=held s1a=held s2a=held", "s1a,s2a", ""},
		{"s1a=held x2a=waits s1a=held", "s1a", "x2a"},
		{"x1a=held x2a=waits x1a=held", "x1a", "x2a"},
		{"x1a=held s2a=waits x1a=held", "x1a", "s2a"},
		// Shared where it Holds Alone.
		{"x1a=held s1a=held", "x1a", ""},
		{"x1a=held x2a=waits s1a=held", "x1a", "x2a"},
		{"x1a=held s2a=waits s1a=held s3a=waits", "x1a", "s2a,s3a"},
		// Alone where it Holds Shared: alone on the item.
		{"s1a=held x1a=held", "x1a", ""},
		{"s1a=held x1a=held s1a=held x1a=held", "x1a", ""},
		{"s1a=held x1a=held s2a=waits", "x1a", "s2a"},
		{"s1a=held s2b=held x3c=held x1a=held", "x1a,s2b,x3c", ""},
		// Beside another's Shared.
		{"s1a=held s2a=held x1a=waits", "s1a,s2a", "x1a"},
		{"s2a=held s1a=held x1a=waits", "s2a,s1a", "x1a"},
		{"s1a=held s2a=held x1a=waits x2a=waits", "s1a,s2a", "x1a,x2a"},
		// With one that Waits.
		{"s1a=held x2a=waits x1a=waits", "s1a", "x2a,x1a"},
		{"s1a=held x2a=waits s3a=waits x1a=waits", "s1a", "x2a,s3a,x1a"},
		{"s1a=held s2a=held x1a=waits f2=x1a", "x1a", ""},
		{"s1a=held x2b=held x3b=waits x1a=held", "x1a,x2b", "x3b"},
		// Of a deal that Waits: for the same lock, for another mode, for another item, for what it Holds.
		{"x1a=held x2a=waits x2a=ErrClash", "x1a", "x2a"},
		{"x1a=held x2a=waits s2a=ErrClash", "x1a", "x2a"},
		{"x1a=held s2a=waits s2a=ErrClash x2a=ErrClash", "x1a", "s2a"},
		{"x1a=held x2a=waits s2b=ErrClash x2f=ErrClash", "x1a", "x2a"},
		{"x1a=held s2b=held x2c=held x2a=waits s2b=ErrClash x2b=ErrClash x2c=ErrClash s2c=ErrClash", "x1a,s2b,x2c", "x2a"},
		{"s1a=held s2a=held x1a=waits s1a=ErrClash x1a=ErrClash", "s1a,s2a", "x1a"},
		// It waits no longer: it may ask again.
		{"x1a=held x2a=waits x2b=ErrClash f1=x2a x2b=held s2a=held", "x2a,x2b", ""},
		{"x1a=held x2a=waits x2b=ErrClash f2= x2b=held", "x1a,x2b", ""},
		// Shared where another's Alone Waits behind Shared ones.
		{"s1a=held x2a=waits s3a=waits", "s1a", "x2a,s3a"},
		{"s1a=held s4a=held x2a=waits s3a=waits s5a=waits", "s1a,s4a", "x2a,s3a,s5a"},
		{"s1a=held s2a=held x2a=waits s3a=waits", "s1a,s2a", "x2a,s3a"},
		{"s1a=held x2a=waits s3a=waits s1a=held", "s1a", "x2a,s3a"},
		// Another item's Waits stop nobody.
		{"s1a=held x2a=waits s3b=held x4b=waits x5c=held", "s1a,s3b,x5c", "x2a,x4b"},
	})
}

// TestFor: L1.
func TestFor(t *testing.T) {
	goes(t, []said{
		// Not asked: all that Wait count.
		{"x1a=held s2a?1 x2a?1 x2b?", "x1a", ""},
		{"s1a=held s2a? x2a?1", "s1a", ""},
		{"s3a=held s1a=held s2a=held x4a?1,2,3 s4a?", "s3a,s1a,s2a", ""},
		{"x6f=held s1f?6 x1f?6 x1e?", "x6f", ""},
		{"s1a=held x3a=waits s2a=waits s4a?3 x4a?1,2,3 x4b?", "s1a", "x3a,s2a"},
		{"s6a=held x5a=waits x4a=waits x3a=waits x2a=waits x1a?2,3,4,5,6 s1a?2,3,4,5", "s6a", "x5a,x4a,x3a,x2a"},
		// One that both Holds and Waits is told once.
		{"s1a=held s2a=held x1a=waits x3a?1,2 s3a?1", "s1a,s2a", "x1a"},
		// Asking it asks for nothing, and a deal is not at odds with itself.
		{"x1a=held x2a?1 x2a?1 s1a? x1a?", "x1a", ""},
		// It is Held: all others that Wait count.
		{"x1a=held x2a=waits x1a?2 s1a?2", "x1a", "x2a"},
		{"s1a=held x2a=waits s3a=waits s1a?2 x1a?2,3", "s1a", "x2a,s3a"},
		{"s1a=held s2a=held x3a=waits x1a?2,3 s1a?3", "s1a,s2a", "x3a"},
		{"x1a=held s2a=waits x1a?2 s1a?", "x1a", "s2a"},
		// It Waits: those ahead of it, none behind it.
		{"x1a=held x2a=waits x3a=waits x4a=waits x2a?1 x3a?1,2 x4a?1,2,3", "x1a", "x2a,x3a,x4a"},
		{"x4a=held x3a=waits x2a=waits x1a=waits x3a?4 x2a?3,4 x1a?2,3,4", "x4a", "x3a,x2a,x1a"},
		{"s1a=held x2a=waits s3a=waits x4a=waits s3a?2 x4a?1,2,3 x2a?1", "s1a", "x2a,s3a,x4a"},
		{"x1a=held s2a=waits s3a=waits s2a?1 s3a?1 x2a?1 x3a?1,2", "x1a", "s2a,s3a"},
		{"s1a=held s2a=held x2a=waits x1a=waits x2a?1 x1a?2", "s1a,s2a", "x2a,x1a"},
		// Its deal Waits for another item: just those ahead of that count.
		{"x1a=held x1b=held x3a=waits x2b=waits x4a=waits x2a?1,3 s2a?1,3", "x1a,x1b", "x3a,x2b,x4a"},
		{"x1a=held s6b=held x2a=waits x3b=waits x2b?6 s2b? x1b?3,6 x3a?1,2", "x1a,s6b", "x2a,x3b"},
		// It Holds one of the item, too.
		{"s2a=held x1b=held x2b=waits x3a=waits x2a? s2a? s4a?3", "s2a,x1b", "x2b,x3a"},
		// Who waits for nobody any more.
		{"x1a=held x2a=waits x2a?1 f1=x2a x2a? x1a?2", "x2a", ""},
		{"x1a=held x2a=waits x3a=waits x3a?1,2 f2= x3a?1", "x1a", "x3a"},
	})
}

// TestFree: L2.
func TestFree(t *testing.T) {
	goes(t, []said{
		// A deal that Holds none.
		{"x1a=held f2= x2a=waits f3=", "x1a", "x2a"},
		{"x1a=held f1= f1=", "", ""},
		// Some, all.
		{"s1a=held x2b=held x1c=held s2a=held f1=", "x2b,s2a", ""},
		{"x1a=held s1b=held s1c=held f1=", "", ""},
		{"x1a=held f1= x2a=held f2= s1a=held", "s1a", ""},
		// One that Waits: it is forgotten.
		{"x1a=held x2a=waits f2=", "x1a", ""},
		{"x1a=held x2a=waits f2= f1=", "", ""},
		{"x1a=held x2a=waits x3a=waits f2= f1=x3a", "x3a", ""},
		{"x1a=held x2a=waits f2= x2a=waits", "x1a", "x2a"},
		// What stood just behind it is Held by that.
		{"s1a=held x2a=waits s3a=waits f2=s3a", "s1a,s3a", ""},
		{"s1a=held x2a=waits s3a=waits s4a=waits f2=s3a,s4a", "s1a,s3a,s4a", ""},
		{"s1a=held x2a=waits s3a=waits x4a=waits s5a=waits f2=s3a", "s1a,s3a", "x4a,s5a"},
		{"s1a=held x2a=waits x1a=waits f2=x1a", "x1a", ""},
		// One that both Holds and Waits.
		{"x1a=held x2b=held x2a=waits x3b=waits f2=x3b", "x1a,x3b", ""},
		{"s1a=held s2a=held x1a=waits x3a=waits f1= f2=x3a", "x3a", ""},
		{"s1a=held s2a=held x1a=waits x2a=waits f1=x2a", "x2a", ""},
		{"s1a=held s2a=held x1a=waits x2a=waits f2=x1a", "x1a", ""},
		{"x1a=held x2b=held x1b=waits x2a=waits f1=x2a", "x2b,x2a", ""},
		{"s1a=held x2b=held x3a=waits s4a=waits s1b=waits x5b=waits f1=x3a", "x2b,x3a", "s4a,x5b"},
		// None comes to be Held.
		{"s1a=held s2a=held x3a=waits f1=", "s2a", "x3a"},
		{"x1a=held x2a=waits x3b=held f3=", "x1a", "x2a"},
		// One; several; those that still Wait ahead stop others.
		{"x1a=held x2a=waits x3a=waits f1=x2a", "x2a", "x3a"},
		{"x1a=held s2a=waits s3a=waits f1=s2a,s3a", "s2a,s3a", ""},
		{"x1a=held s3a=waits x4a=waits s2a=waits f1=s3a", "s3a", "x4a,s2a"},
		{"x1a=held x4a=waits s3a=waits s2a=waits f1=x4a f4=s3a,s2a", "s3a,s2a", ""},
		{"s1a=held s2a=held x3a=waits s4a=waits f1= f2=x3a f3=s4a", "s4a", ""},
		// As they came, not as they are numbered, nor by items.
		{"x1b=held x1a=held x6a=waits x2b=waits f1=x6a,x2b", "x6a,x2b", ""},
		{"x1a=held x1b=held x1c=held s6c=waits s5a=waits s2c=waits s4b=waits s3a=waits f1=s6c,s5a,s2c,s4b,s3a", "s6c,s5a,s2c,s4b,s3a", ""},
		{"x1a=held x1b=held x3a=waits x4a=waits x2b=waits f1=x3a,x2b", "x3a,x2b", "x4a"},
		// Alone comes where its deal Holds Shared.
		{"s1a=held s2a=held x2a=waits f1=x2a", "x2a", ""},
		{"s1a=held s2a=held s3a=held x2a=waits f1= f3=x2a", "x2a", ""},
		{"s1a=held s2a=held x2a=waits s3a=waits f1=x2a f2=s3a", "s3a", ""},
		// One that is Held by that stops those behind it.
		{"s1a=held s2a=held x3a=waits x2a=waits f1= f3=x2a", "x2a", ""},
		{"x1a=held s2a=waits x3a=waits s4a=waits x5a=waits f1=s2a f2=x3a f3=s4a f4=x5a f5=", "", ""},
	})
}

// TestOrder: L2: Held as they came to be, Waits as they came.
func TestOrder(t *testing.T) {
	goes(t, []said{
		{"x3c=held s2b=held x1a=held s6b=held", "x3c,s2b,x1a,s6b", ""},
		// What is freed leaves its place, and comes last when it comes again.
		{"s1a=held s2a=held s3a=held f2= s2a=held", "s1a,s3a,s2a", ""},
		{"s1a=held s2a=held f1= s1a=held", "s2a,s1a", ""},
		// What is asked again stays where it was.
		{"s1a=held s2a=held s1a=held", "s1a,s2a", ""},
		{"x1a=held s2b=held s1a=held", "x1a,s2b", ""},
		// Alone in the place of a Shared one: the first, between, the last; at once, or behind a Free.
		{"s1a=held s2b=held s3c=held x1a=held", "x1a,s2b,s3c", ""},
		{"s1a=held s2b=held s3c=held x2b=held", "s1a,x2b,s3c", ""},
		{"s1a=held s2b=held s3c=held x3c=held", "s1a,s2b,x3c", ""},
		{"s1a=held s2b=held s1b=held s3c=held x1b=waits f2=x1b", "s1a,x1b,s3c", ""},
		{"s2a=held s1a=held s3b=held x1a=waits x4b=waits f2=x1a f3=x4b", "x1a,x4b", ""},
		{"s2a=held s1a=held s1b=held x1a=waits f2=x1a", "x1a,s1b", ""},
		// What has Waited is Held as of when it comes to be so, not as of when it was asked.
		{"x1a=held x2a=waits x3b=held f1=x2a", "x3b,x2a", ""},
		{"x1a=held x2b=held x3b=waits x4a=waits f1=x4a f2=x3b", "x4a,x3b", ""},
		// Waits are of all items, as they came, and keep their order.
		{"x1b=held x1a=held x5a=waits x2b=waits x4b=waits x3a=waits", "x1b,x1a", "x5a,x2b,x4b,x3a"},
		{"x1b=held x1a=held x5a=waits x2b=waits x4b=waits x3a=waits f2=", "x1b,x1a", "x5a,x4b,x3a"},
		{"x1b=held x1a=held x5a=waits x2b=waits x4b=waits x3a=waits f1=x5a,x2b", "x5a,x2b", "x4b,x3a"},
		{"x1a=held x2a=waits x3a=waits x4a=waits f2= x2a=waits", "x1a", "x3a,x4a,x2a"},
	})
}

// TestMost: L1 and L2: as many as may be Held, and as many as may Wait.
func TestMost(t *testing.T) {
	table := locks.New()
	var want []api.Lock
	for tx := api.MaxTx; tx > 0; tx-- {
		for item := 1; item <= api.MaxItem; item++ {
			if is, err := table.Ask(shared(tx, item)); !is || err != nil {
				t.Fatalf("Ask: got %v %v", is, err)
			}
			want = append(want, shared(tx, item))
		}
	}
	if !slices.Equal(table.Held(), want) || len(table.Waits()) > 0 {
		t.Fatalf("got %v %v, want %v", table.Held(), table.Waits(), want)
	}
	for tx := 1; tx <= api.MaxTx; tx++ {
		if is, err := table.Ask(alone(tx, 1)); is || err != nil {
			t.Fatalf("Ask: got %v %v", is, err)
		}
	}
	if deals, err := table.For(alone(6, 1)); err != nil || numbers(deals) != "1,2,3,4,5" {
		t.Errorf("For: got %v %v", deals, err)
	}
	// The first of those that Wait is Held just when nobody else Holds the item.
	for tx := api.MaxTx; tx > 2; tx-- {
		if came, err := table.Free(tx); err != nil || len(came) > 0 {
			t.Errorf("Free %d: got %v %v", tx, came, err)
		}
	}
	if came, err := table.Free(2); err != nil || words(came) != "x1a" {
		t.Errorf("Free 2: got %v %v", came, err)
	}
	if got := words(table.Held()); got != "x1a,s1b,s1c,s1d,s1e,s1f" {
		t.Errorf("Held: got %v", got)
	}
}

// TestTables: P2 of DOC.md: what a table tells hangs on the calls on it alone.
func TestTables(t *testing.T) {
	one, other := locks.New(), locks.New()
	if got := step(one, "x1a"); got != "x1a=held" {
		t.Error(got)
	}
	if got := step(other, "x2a"); got != "x2a=held" {
		t.Error(got)
	}
	if got := step(other, "x1a"); got != "x1a=waits" {
		t.Error(got)
	}
	if got := step(one, "f2"); got != "f2=" {
		t.Error(got)
	}
	if words(one.Held()) != "x1a" || words(other.Held()) != "x2a" || words(one.Waits()) != "" || words(other.Waits()) != "x1a" {
		t.Errorf("got %v %v, %v %v", one.Held(), one.Waits(), other.Held(), other.Waits())
	}
}

// TestMemory: P2 of DOC.md: what was told is not changed by later calls, and changing it, as far as its memory goes, changes no table.
func TestMemory(t *testing.T) {
	table := locks.New()
	for _, w := range []string{"s1a=held", "s2a=held", "x3b=held", "x2a=waits", "s4b=waits", "s5b=waits", "x6b=waits"} {
		if got := step(table, w); got != w {
			t.Fatalf("got %q, want %q", got, w)
		}
	}
	held, waits := table.Held(), table.Waits()
	deals, err := table.For(alone(6, 2))
	if err != nil {
		t.Fatal(err)
	}
	came, err := table.Free(3)
	if err != nil {
		t.Fatal(err)
	}
	again := table.Held()
	for _, w := range []string{"f1=x2a", "x1f=held", "x3a=waits", "f4=", "f5=x6b", "f2=x3a", "s2c=held", "s4a=waits"} {
		if got := step(table, w); got != w {
			t.Fatalf("got %q, want %q", got, w)
		}
	}
	if words(held) != "s1a,s2a,x3b" || words(waits) != "x2a,s4b,s5b,x6b" || numbers(deals) != "3,4,5" ||
		words(came) != "s4b,s5b" || words(again) != "s1a,s2a,s4b,s5b" {
		t.Errorf("what was told is now %v %v %v %v %v", held, waits, deals, came, again)
	}
	for range 2 {
		came, err := table.Free(5)
		if err != nil || len(came) > 0 {
			t.Fatalf("Free: got %v %v", came, err)
		}
		deals, err := table.For(alone(5, 1))
		if err != nil || numbers(deals) != "3,4" {
			t.Fatalf("For: got %v %v", deals, err)
		}
		held, waits := table.Held(), table.Waits()
		if words(held) != "x1f,x6b,x3a,s2c" || words(waits) != "s4a" {
			t.Fatalf("got %v %v", held, waits)
		}
		clear(held[:cap(held)])
		clear(waits[:cap(waits)])
		clear(deals[:cap(deals)])
	}
	came, err = table.Free(3)
	if err != nil || words(came) != "s4a" {
		t.Fatalf("Free: got %v %v", came, err)
	}
	clear(came[:cap(came)])
	if words(table.Held()) != "x1f,x6b,s2c,s4a" || words(table.Waits()) != "" {
		t.Errorf("got %v %v", table.Held(), table.Waits())
	}
}

// place where a deal may hold a lock.
type place struct{ tx, item int }

// mark of a lock: its mode, and since when it is there.
type mark struct{ mode, since int }

// wish of a deal that Waits.
type wish struct{ item, mode, since int }

// notes keep by place and deal, with times, what a table keeps as lists.
type notes struct {
	now   int
	holds map[place]mark
	wants map[int]wish
}

func newNotes() *notes {
	return &notes{holds: map[place]mark{}, wants: map[int]wish{}}
}

// against: who stops a lock, of those that Hold and those that Wait since before a time.
func (n *notes) against(l api.Lock, before int) []int {
	var deals []int
	for tx := 1; tx <= api.MaxTx; tx++ {
		if tx == l.Tx {
			continue
		}
		m := n.holds[place{tx, l.Item}]
		w := n.wants[tx]
		if m.mode+l.Mode > 2 && m.mode > 0 || w.item == l.Item && w.since < before && w.mode+l.Mode > 2 {
			deals = append(deals, tx)
		}
	}
	return deals
}

// hold notes a lock; in the place of a Shared one it is there since that was.
func (n *notes) hold(l api.Lock) {
	n.now++
	m := mark{l.Mode, n.now}
	if was, is := n.holds[place{l.Tx, l.Item}]; is {
		m.since = was.since
	}
	n.holds[place{l.Tx, l.Item}] = m
}

func (n *notes) ask(l api.Lock) (bool, api.Errno) {
	if n.wants[l.Tx].since > 0 {
		return false, api.ErrClash
	}
	if n.holds[place{l.Tx, l.Item}].mode >= l.Mode {
		return true, api.OK
	}
	if len(n.against(l, math.MaxInt)) == 0 {
		n.hold(l)
		return true, api.OK
	}
	n.now++
	n.wants[l.Tx] = wish{l.Item, l.Mode, n.now}
	return false, api.OK
}

func (n *notes) forWhom(l api.Lock) []int {
	if w, is := n.wants[l.Tx]; is {
		return n.against(l, w.since)
	}
	return n.against(l, math.MaxInt)
}

func (n *notes) free(tx int) []api.Lock {
	delete(n.wants, tx)
	maps.DeleteFunc(n.holds, func(p place, _ mark) bool { return p.tx == tx })
	var came []api.Lock
	for _, l := range n.waits() {
		if len(n.against(l, n.wants[l.Tx].since)) == 0 {
			delete(n.wants, l.Tx)
			n.hold(l)
			came = append(came, l)
		}
	}
	return came
}

func (n *notes) held() []api.Lock {
	at := slices.SortedFunc(maps.Keys(n.holds), func(p, q place) int {
		return cmp.Compare(n.holds[p].since, n.holds[q].since)
	})
	var l []api.Lock
	for _, p := range at {
		l = append(l, api.Lock{Tx: p.tx, Item: p.item, Mode: n.holds[p].mode})
	}
	return l
}

func (n *notes) waits() []api.Lock {
	deals := slices.SortedFunc(maps.Keys(n.wants), func(a, b int) int {
		return cmp.Compare(n.wants[a].since, n.wants[b].since)
	})
	var l []api.Lock
	for _, tx := range deals {
		l = append(l, api.Lock{Tx: tx, Item: n.wants[tx].item, Mode: n.wants[tx].mode})
	}
	return l
}

// pair is a table, and what is noted of it.
type pair struct {
	table *locks.Table
	notes *notes
}

func newPair() pair { return pair{locks.New(), newNotes()} }

// do is an Ask, or, without an item, a Free.
func (p pair) do(t *testing.T, l api.Lock) (came int) {
	t.Helper()
	if l.Item == 0 {
		want := p.notes.free(l.Tx)
		if got, err := p.table.Free(l.Tx); err != nil || !slices.Equal(got, want) {
			t.Fatalf("Free %d: got %v %v, want %v", l.Tx, got, err, want)
		}
		return len(want)
	}
	is, errno := p.notes.ask(l)
	if got, err := p.table.Ask(l); got != is || plain.Told(err) != errno {
		t.Fatalf("Ask %v: got %v %v, want %v %v", l, got, err, is, errno)
	}
	return 0
}

// look holds what stands against what is noted, at all locks of these deals and items.
func (p pair) look(t *testing.T, deals, items int) {
	t.Helper()
	held, waits := p.table.Held(), p.table.Waits()
	if !slices.Equal(held, p.notes.held()) || !slices.Equal(waits, p.notes.waits()) {
		t.Fatalf("got %v %v, want %v %v", held, waits, p.notes.held(), p.notes.waits())
	}
	for _, l := range calls(deals, items) {
		if l.Item == 0 {
			continue
		}
		want := p.notes.forWhom(l)
		if got, err := p.table.For(l); err != nil || !slices.Equal(got, want) {
			t.Fatalf("For %v, Held %v, Waits %v: got %v %v, want %v", l, held, waits, got, err, want)
		}
	}
	inPeace(t, held, waits)
	withReason(t, p.table, waits)
}

// inPeace: none that are Held are at odds; a deal Holds one of an item, and Waits for one.
func inPeace(t *testing.T, held, waits []api.Lock) {
	t.Helper()
	for i, l := range held {
		for _, o := range held[:i] {
			if o.Item == l.Item && (o.Tx == l.Tx || o.Mode == api.Alone || l.Mode == api.Alone) {
				t.Fatalf("Held are %v", held)
			}
		}
	}
	for i, l := range waits {
		if slices.ContainsFunc(waits[:i], func(o api.Lock) bool { return o.Tx == l.Tx }) {
			t.Fatalf("Waits are %v", waits)
		}
	}
}

// withReason: each that Waits waits for somebody.
func withReason(t *testing.T, table *locks.Table, waits []api.Lock) {
	t.Helper()
	for _, l := range waits {
		if deals, err := table.For(l); err != nil || len(deals) == 0 {
			t.Fatalf("%v Waits for %v %v", l, deals, err)
		}
	}
}

// calls: all Asks and Frees of these deals and items.
func calls(deals, items int) []api.Lock {
	var l []api.Lock
	for tx := 1; tx <= deals; tx++ {
		for item := 1; item <= items; item++ {
			l = append(l, shared(tx, item), alone(tx, item))
		}
		l = append(l, api.Lock{Tx: tx})
	}
	return l
}

// TestSmall: L1 and L2: each way in which a table of few deals and items may stand, and each call there.
func TestSmall(t *testing.T) {
	for _, k := range []struct{ deals, items, least int }{{1, 3, 20}, {2, 2, 100}, {3, 1, 50}, {4, 1, 500}} {
		seen := map[string][]api.Lock{"|": nil}
		work := []string{"|"}
		for len(work) > 0 {
			path := seen[work[0]]
			work = work[1:]
			for _, l := range calls(k.deals, k.items) {
				p := newPair()
				for _, o := range path {
					p.do(t, o)
				}
				p.do(t, l)
				p.look(t, k.deals, k.items)
				stands := words(p.table.Held()) + "|" + words(p.table.Waits())
				if _, is := seen[stands]; !is {
					seen[stands] = append(slices.Clone(path), l)
					work = append(work, stands)
				}
			}
		}
		if len(seen) < k.least {
			t.Errorf("%d deals, %d items: only %d ways", k.deals, k.items, len(seen))
		}
	}
}

// roller gives numbers below n, by a rule that mixes them.
func roller() func(n int) int {
	mixed := uint64(1)
	return func(n int) int {
		mixed = mixed*6364136223846793005 + 1442695040888963407
		return int(mixed>>33) % n
	}
}

// TestGreat: L1 and L2: long mixed ways of up to six deals and items.
func TestGreat(t *testing.T) {
	roll := roller()
	several := 0
	for range 300 {
		deals, items, freed := roll(api.MaxTx)+1, roll(api.MaxItem)+1, roll(12)+2
		p := newPair()
		for range 200 {
			l := api.Lock{Tx: roll(deals) + 1}
			if roll(freed) > 0 {
				l.Item, l.Mode = roll(items)+1, roll(2)+1
			}
			if p.do(t, l) > 1 {
				several++
			}
			p.look(t, deals, items)
		}
	}
	if several < 300 {
		t.Errorf("several came to be Held at once just %d times: too few to tell", several)
	}
}
