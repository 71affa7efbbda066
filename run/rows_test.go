package run_test

import (
	"strings"
	"testing"

	"locklane/api"
	"locklane/run"
)

// rowed is a history, and what some rows are answered of it, each as `row: answer`.
type rowed struct {
	history string
	rows    []string
}

// rowsAre holds rows of histories against their answers, one by one, and all of them in one text, there and back.
func rowsAre(t *testing.T, all []rowed) {
	t.Helper()
	for _, k := range all {
		ahead, text, answer := "history "+k.history+"\n", "", ""
		for _, r := range k.rows {
			row, want, _ := strings.Cut(r, ": ")
			answers(t, []asked{{ahead + row, "ok\n" + want + "\n"}})
			text = row + "\n" + text + row + "\n"
			answer = want + "\n" + answer + want + "\n"
		}
		answers(t, []asked{{ahead + text, "ok\n" + answer}})
	}
}

// TestOrder: Z1: order and view, where there are such orders and where there are not.
func TestOrder(t *testing.T) {
	rowsAre(t, []rowed{
		{"c3", []string{"order: 3", "view: 3"}},
		{"c5 c1", []string{"order: 1 5", "view: 1 5"}},
		{"w2(a) c2 r1(a) c1", []string{"order: 2 1", "view: 2 1"}},
		{"w6(a) w5(a) w4(a) w3(a) w2(a) w1(a) c1 c2 c3 c4 c5 c6", []string{"order: 6 5 4 3 2 1", "view: 2 3 4 5 6 1"}},
		{"w3(a) r1(a) w4(b) c1 c2 c3", []string{"order: 2 3 1", "view: 2 3 1"}},
		// Only by view.
		{"r1(a) w2(a) w1(a) w3(a) c1 c2 c3", []string{"order: ErrCycle", "view: 1 2 3"}},
		// Neither.
		{"r1(a) r2(a) w1(a) w2(a) c1 c2", []string{"order: ErrCycle", "view: ErrNone"}},
		{"r1(a) w2(a) r2(b) w1(b) c2 c1", []string{"order: ErrCycle", "view: ErrNone"}},
		// Who does not commit goes around with nobody.
		{"r1(a) r2(a) w1(a) w2(a) c1 a2", []string{"order: 1", "view: 1"}},
		{"r1(a) r2(a) w1(a) w2(a) c2", []string{"order: 2", "view: 2"}},
		// Nobody commits.
		{"r1(a) r2(a) w1(a) w2(a)", []string{"order: -", "view: -"}},
		{"w1(a) a1", []string{"order: -", "view: -"}},
	})
}

// TestFaces: Z1: faces, as far as they go; each has those ahead of it.
func TestFaces(t *testing.T) {
	rowsAre(t, []rowed{
		{"w1(a) r2(a) c2 c1", []string{"faces: -"}},
		{"w1(a) r2(a) c2 a1", []string{"faces: -"}},
		{"w2(a) r1(a) c2 c1", []string{"faces: recoverable"}},
		{"w1(b) w2(b) c2 c1", []string{"faces: recoverable cautious"}},
		{"r2(a) w1(a) c2 c1", []string{"faces: recoverable cautious strict"}},
		{"r2(a) r1(a) c2 w1(a) c1", []string{"faces: recoverable cautious strict rigorous"}},
		{"r1(a)", []string{"faces: recoverable cautious strict rigorous"}},
	})
}

// TestIlls: Z1: ills, each alone, and several; lost is never without unrepeated.
func TestIlls(t *testing.T) {
	rowsAre(t, []rowed{
		{"c2 c1", []string{"ills: -"}},
		{"r2(a) r1(a) c2 w1(a) c1", []string{"ills: -"}},
		{"w1(b) w2(b) c2 c1", []string{"ills: dirtywrite"}},
		{"w1(a) r2(a) c1", []string{"ills: dirtyread"}},
		{"r3(a) w2(a) c1", []string{"ills: unrepeated"}},
		{"w2(b) w1(b) r1(b) c1", []string{"ills: dirtywrite dirtyread"}},
		{"c1 w3(a) r3(a) w2(a)", []string{"ills: dirtywrite unrepeated"}},
		{"c1 w2(a) r3(a) w2(a)", []string{"ills: dirtyread unrepeated"}},
		{"r1(a) w2(a) c2 w1(a) c1", []string{"ills: unrepeated lost"}},
		{"w1(a) r3(a) w2(a) c1", []string{"ills: dirtywrite dirtyread unrepeated"}},
		{"r1(a) w3(a) w1(a) c1", []string{"ills: dirtywrite unrepeated lost"}},
		{"w1(a) r2(a) w1(a) c1 w2(a) c2", []string{"ills: dirtyread unrepeated lost"}},
		{"w2(a) r1(a) w2(a) w1(a) c1", []string{"ills: dirtywrite dirtyread unrepeated lost"}},
	})
}

// TestValues: Z1: values, of all items.
func TestValues(t *testing.T) {
	rowsAre(t, []rowed{
		{"c1", []string{"values: 0 0 0 0 0 0"}},
		{"w1(a)", []string{"values: 0 0 0 0 0 0"}},
		{"w1(f) c1", []string{"values: 0 0 0 0 0 8"}},
		{"w2(a) w3(a) r1(a) w1(b) c1 c2", []string{"values: 15 24 0 0 0 0"}},
		{"w1(a) w1(b) w1(c) w1(d) w1(e) w1(f) c1", []string{"values: 8 9 10 11 12 13"}},
	})
}

// TestRuns: Z1: what runs tell, where they part.
func TestRuns(t *testing.T) {
	rowsAre(t, []rowed{
		{"w2(a) r3(a) r1(a)", []string{
			"detect: w2(a)", "waitdie: w2(a) a3", "woundwait: w2(a) a2 r3(a) r1(a)", "stamp: w2(a) r3(a) a1",
			"valid: -", "snap: -", "danger: -", "versions: -",
		}},
		{"r1(a) w3(a) w1(b) r2(b) c1 c2 c3", []string{
			"detect: r1(a) w1(b) c1 w3(a) r2(b) c2 c3", "waitdie: r1(a) a3 w1(b) a2 c1", "woundwait: r1(a) w1(b) c1 w3(a) r2(b) c2 c3",
			"stamp: r1(a) w3(a) w1(b) r2(b) c1 c2 c3", "valid: 1 3", "snap: 1 2 3", "danger: 1 2", "versions: 2 3",
		}},
		// Two go around.
		{"w1(a) w2(b) w1(b) w2(a) c1 c2", []string{
			"detect: w1(a) w2(b) a2 w1(b) c1", "waitdie: w1(a) w2(b) a2 w1(b) c1", "woundwait: w1(a) w2(b) a2 w1(b) c1",
			"stamp: w1(a) w2(b) a1 w2(a) c2", "valid: 1 2", "snap: 1", "danger: 1", "versions: 1 2",
		}},
		// Write by 1 is passed by: stamp goes without leave, by which it would be left out and 1 go on.
		{"w2(a) w1(a) c1 c2", []string{"stamp: w2(a) a1 c2", "detect: w2(a) c2 w1(a) c1", "versions: 1 2"}},
		{"w2(a) w1(a) r1(b) w3(b) r2(b) c1 c2 c3", []string{"stamp: w2(a) a1 w3(b) a2 c3"}},
		// Nobody is done, or all are, in another order.
		{"a1 w2(a)", []string{"stamp: a1 w2(a)", "woundwait: a1 w2(a)", "valid: -", "snap: -", "danger: -", "versions: -"}},
		{"c6 c2 c4", []string{"detect: c6 c2 c4", "stamp: c6 c2 c4", "valid: 6 2 4", "snap: 6 2 4", "danger: 6 2 4", "versions: 2 4 6"}},
	})
}

// TestMore: Z1: what tells more ops than Print takes is answered by Print's error; MaxOps are not more.
func TestMore(t *testing.T) {
	held := strings.Repeat("r2(f) ", api.MaxOps-1)
	rowsAre(t, []rowed{
		// 1 aborts 2, which held all: with that Abort one op more is told.
		{held + "w1(f)", []string{
			"detect: " + strings.TrimSpace(held), "waitdie: " + strings.TrimSpace(held),
			"woundwait: ErrFull", "stamp: " + held + "a1", "order: -",
		}},
		{held[:len(held)-6] + "w1(f)", []string{"woundwait: " + held[:len(held)-6] + "a2 w1(f)"}},
		{held + "w2(f)", []string{"woundwait: " + held + "w2(f)"}},
		// Five are aborted.
		{strings.Repeat("r2(a) r3(a) r4(a) r5(a) r6(a) ", 7) + "w1(a) c1", []string{"woundwait: ErrFull", "order: 1"}},
	})
	// The error leaves the history that was asked as it was.
	answers(t, []asked{{
		"history " + held + "w1(f)\nwoundwait\nstamp\nwoundwait\n",
		"ok\nErrFull\n" + held + "a1\nErrFull\n",
	}})
	if got := run.Run("history " + held + "w1(f) c1"); got != "ErrFull\n" {
		t.Errorf("got %q", got)
	}
}
