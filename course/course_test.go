package course_test

import (
	"fmt"
	"slices"
	"strings"
	"testing"

	"locklane/api"
	"locklane/course"
	"locklane/history"
	"locklane/plain"
)

// ops of a text that is right.
func ops(t *testing.T, text string) []api.Op {
	t.Helper()
	l, err := history.Parse(text)
	if err != nil {
		t.Fatalf("%q: %v", text, err)
	}
	return l
}

// TestRules: the rules are asked just where it is theirs to say, and what they say is done.
func TestRules(t *testing.T) {
	for _, k := range []struct {
		ops, asked string
		out        api.Outcome
	}{
		{"", "", api.Outcome{Last: []int{0, 0, 0, 0, 0, 0}}},
		// Sees: of what a deal did not write itself.
		{"r1(a) w1(a) r1(a) r1(b) c1", "see 1 1, see 1 2, fall 1",
			api.Outcome{Done: []int{1}, Seen: []api.Seen{{Tx: 1, Item: 1, From: 5}, {Tx: 1, Item: 1, From: 1}, {Tx: 1, Item: 2, From: 5}}, Last: []int{1, 0, 0, 0, 0, 0}}},
		// Falls: of a Commit alone. 2 falls by it.
		{"w2(a) w3(a) a3 w4(b) c2 w1(c) c1", "fall 2, fall 1",
			api.Outcome{Done: []int{1}, Last: []int{0, 0, 1, 0, 0, 0}}},
		{"r2(a) r4(a) c4 c2", "see 2 1, see 4 1, fall 4, fall 2",
			api.Outcome{Done: []int{4}, Seen: []api.Seen{{Tx: 4, Item: 1, From: 5}}, Last: []int{0, 0, 0, 0, 0, 0}}},
	} {
		var asked []string
		out, err := course.Run(ops(t, k.ops), course.Rules{
			Sees: func(_ *course.Course, tx, item int) int {
				asked = append(asked, fmt.Sprint("see ", tx, " ", item))
				return 5
			},
			Falls: func(_ *course.Course, tx int) bool {
				asked = append(asked, fmt.Sprint("fall ", tx))
				return tx == 2
			},
		})
		if err != nil || fmt.Sprint(out) != fmt.Sprint(k.out) || strings.Join(asked, ", ") != k.asked {
			t.Errorf("%q: got %v %v by %q, want %v by %q", k.ops, out, err, asked, k.out, k.asked)
		}
	}
}

// TestWrong: Check's error is told, and no rule is asked.
func TestWrong(t *testing.T) {
	never := course.Rules{
		Sees:  func(*course.Course, int, int) int { t.Error("asked what is seen"); return 0 },
		Falls: func(*course.Course, int) bool { t.Error("asked who falls"); return false },
	}
	read := api.Op{Tx: 1, What: api.Read, Item: 1}
	commit := api.Op{Tx: 1, What: api.Commit}
	for _, k := range []struct {
		l   []api.Op
		err api.Errno
	}{
		{slices.Repeat([]api.Op{read}, api.MaxOps+1), api.ErrFull},
		{[]api.Op{read, commit, {Tx: 2, What: api.Read}}, api.ErrRange},
		{[]api.Op{read, commit, read}, api.ErrState},
	} {
		out, err := course.Run(k.l, never)
		if plain.Told(err) != k.err || len(out.Done)+len(out.Seen)+len(out.Last) > 0 {
			t.Errorf("%v: got %v %v, want %v", k.l, out, err, k.err)
		}
		whole, err := course.Whole(k.l, never)
		if plain.Told(err) != k.err || whole != nil {
			t.Errorf("%v: whole: got %v %v, want %v", k.l, whole, err, k.err)
		}
	}
}

// TestStands: what a rule is told of how the run stands; what it is given is its own.
func TestStands(t *testing.T) {
	var told []string
	out, err := course.Run(ops(t, "w1(a) r3(b) w4(b) c1 w2(a) r2(c) c2 a4 w3(c) r3(a) c3"), course.Rules{
		Sees: func(c *course.Course, _, item int) int { return c.Last(item) },
		Falls: func(c *course.Course, tx int) bool {
			done, since, read, written := c.Done(), c.Since(tx), c.Read(tx), c.Written(tx)
			told = append(told, fmt.Sprint(tx, done, since, read, written, c.Wrote(tx, 1), c.Wrote(tx, 3), c.Last(1), c.Last(2), c.LastBefore(tx, 1)))
			clear(done)
			clear(since)
			clear(read)
			clear(written)
			return false
		},
	})
	want := []string{
		"1 [] [] [] [1] true false 0 0 0",
		"2 [1] [] [{2 3 0}] [1] true false 1 0 1",
		"3 [1 2] [1 2] [{3 2 0} {3 1 2}] [3] false true 2 0 0",
	}
	if err != nil || !slices.Equal(told, want) || fmt.Sprint(out) != "{[1 2 3] [{2 3 0} {3 2 0} {3 1 2}] [2 0 3 0 0 0]}" {
		t.Errorf("got %q, then %v %v, want %q", told, out, err, want)
	}
}

// TestWhole: how a run stands when all ops have come: who is done committed since it began itself, and who is not did not.
func TestWhole(t *testing.T) {
	c, err := course.Whole(ops(t, "w1(a) r3(b) c1 w2(a) w2(c) w2(a) c3 a4 w5(a) c2"), course.Rules{
		Sees:  func(*course.Course, int, int) int { return 0 },
		Falls: func(*course.Course, int) bool { return false },
	})
	if err != nil {
		t.Fatal(err)
	}
	told := fmt.Sprint(c.Done(), c.Since(1), c.Since(2), c.Since(3), c.Since(4), c.Since(5), c.Written(2), c.Written(3), c.Written(5), c.Last(1))
	if told != "[1 3 2] [1 3 2] [3 2] [1 3 2] [2] [2] [1 3 1] [] [1] 2" {
		t.Errorf("got %s", told)
	}
	before := fmt.Sprint(c.LastBefore(1, 1), c.LastBefore(2, 1), c.LastBefore(3, 1), c.LastBefore(5, 1), c.LastBefore(5, 3))
	if before != "0 1 0 1 0" {
		t.Errorf("got %s", before)
	}
}

// TestAtOnce: two ran at once just if neither had committed when the other one began, whichever
// is named first; so do one that asks to commit and is not done yet, and one that never is.
func TestAtOnce(t *testing.T) {
	var told []string
	all := func(c *course.Course, tx int) string {
		var with []int
		for other := 1; other <= api.MaxTx; other++ {
			if c.AtOnce(tx, other) != c.AtOnce(other, tx) {
				t.Errorf("%d and %d: got %v, and %v the other way", tx, other, c.AtOnce(tx, other), c.AtOnce(other, tx))
			}
			if other != tx && c.AtOnce(tx, other) {
				with = append(with, other)
			}
		}
		return fmt.Sprint(tx, with)
	}
	c, err := course.Whole(ops(t, "r1(a) r2(a) r5(a) r6(a) c2 r3(a) c1 a5 c4 c3"), course.Rules{
		Sees: func(*course.Course, int, int) int { return 0 },
		Falls: func(c *course.Course, tx int) bool {
			if tx > 2 { // all have begun by then
				told = append(told, all(c, tx))
			}
			return tx == 4
		},
	})
	if err != nil {
		t.Fatal(err)
	}
	for tx := 1; tx <= api.MaxTx; tx++ {
		told = append(told, all(c, tx))
	}
	want := []string{
		"4 [3 5 6]", "3 [1 4 5 6]", // as they ask to commit
		"1 [2 3 5 6]", "2 [1 5 6]", "3 [1 4 5 6]", "4 [3 5 6]", "5 [1 2 3 4 6]", "6 [1 2 3 4 5]",
	}
	if !slices.Equal(told, want) {
		t.Errorf("got %q, want %q", told, want)
	}
}

// TestOutcome: those that are done in any order that is handed in: who is done, what they saw, and who wrote
// each item last, all stand by it. What was handed in is not kept, and not changed.
func TestOutcome(t *testing.T) {
	c, err := course.Whole(ops(t, "w3(a) r1(b) w1(a) r3(c) w1(b) r2(a) c3 w2(b) c1 w4(a) r4(b) c2"), course.Rules{
		Sees:  func(c *course.Course, _, item int) int { return c.Last(item) },
		Falls: func(*course.Course, int) bool { return false },
	})
	if err != nil {
		t.Fatal(err)
	}
	for _, k := range []struct {
		order []int
		want  string
	}{
		{nil, "{[] [] [0 0 0 0 0 0]}"},
		{[]int{3, 1, 2}, "{[3 1 2] [{3 3 0} {1 2 0} {2 1 0}] [1 2 0 0 0 0]}"},
		{[]int{1, 2, 3}, "{[1 2 3] [{1 2 0} {2 1 0} {3 3 0}] [3 2 0 0 0 0]}"},
		{[]int{2, 3, 1}, "{[2 3 1] [{2 1 0} {3 3 0} {1 2 0}] [1 1 0 0 0 0]}"},
	} {
		kept := slices.Clone(k.order)
		out := c.Outcome(k.order)
		if fmt.Sprint(out) != k.want {
			t.Errorf("%v: got %v, want %s", k.order, out, k.want)
		}
		clear(out.Done)
		clear(out.Seen)
		clear(out.Last)
		if !slices.Equal(k.order, kept) || fmt.Sprint(c.Outcome(k.order)) != k.want {
			t.Errorf("%v: again: got %v, want %s", k.order, c.Outcome(k.order), k.want)
		}
	}
}

// TestLastOf: of some deals the last one by their order that wrote an item, whatever became of it.
func TestLastOf(t *testing.T) {
	c, err := course.Whole(ops(t, "w1(a) w2(a) w2(b) w3(a) c2 c1 a3"), course.Rules{
		Sees:  func(*course.Course, int, int) int { return 0 },
		Falls: func(_ *course.Course, tx int) bool { return tx == 1 },
	})
	if err != nil {
		t.Fatal(err)
	}
	for _, k := range []struct {
		some       []int
		item, last int
	}{
		{nil, 1, 0},
		{[]int{1, 2, 3}, 1, 3},
		{[]int{3, 2, 1}, 1, 1},
		{[]int{2, 3, 1}, 2, 2},
		{[]int{1, 3}, 2, 0},
		{[]int{1, 2, 3}, 3, 0},
		{[]int{4, 2, 5}, 1, 2},
	} {
		kept := slices.Clone(k.some)
		if last := c.LastOf(k.some, k.item); last != k.last || !slices.Equal(k.some, kept) {
			t.Errorf("%v of %d: got %d, want %d", k.item, kept, last, k.last)
		}
	}
}
