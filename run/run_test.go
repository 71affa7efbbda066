package run_test

import (
	"slices"
	"strconv"
	"strings"
	"testing"

	"locklane/api"
	"locklane/run"
)

// rows of the chapter's table that take no text, as they stand.
func rows() []string {
	return []string{
		"order", "view", "faces", "ills", "values", "detect", "waitdie", "woundwait",
		"stamp", "valid", "snap", "danger", "versions",
	}
}

// asked is a text, and its answer.
type asked struct{ text, answer string }

// answers holds what texts are answered against what they should be.
func answers(t *testing.T, all []asked) {
	t.Helper()
	for _, k := range all {
		if got := run.Run(k.text); got != k.answer {
			t.Errorf("%s: got %s, want %s", short(k.text), short(got), short(k.answer))
		}
	}
}

// short is a text of which no more is shown than helps.
func short(text string) string {
	if len(text) <= 400 {
		return strconv.Quote(text)
	}
	return strconv.Quote(text[:200]) + " .. " + strconv.Quote(text[len(text)-100:])
}

// isBad holds that a line is answered bad, alone, as a last piece, and between others, which it does not change.
func isBad(t *testing.T, line string) {
	t.Helper()
	answers(t, []asked{
		{line + "\n", "bad\n"},
		{"history w2(a) c2\n" + line + "\norder\n", "ok\nbad\n2\n"},
	})
	// Of an empty line nothing is left without its byte 10.
	if line != "" {
		answers(t, []asked{{line, "bad\n"}, {"order\n" + line, "-\nbad\n"}})
	}
}

// TestCut: Z1: lines are cut at byte 10, and nowhere else.
func TestCut(t *testing.T) {
	answers(t, []asked{
		// No text at all has no line.
		{"", ""},
		// A last piece that is empty is none; one that is not is one.
		{"order", "-\n"},
		{"order\n", "-\n"},
		{"fly", "bad\n"},
		{"fly\n", "bad\n"},
		{"order\nfaces", "-\nrecoverable cautious strict rigorous\n"},
		{"order\nfaces\n", "-\nrecoverable cautious strict rigorous\n"},
		{"history w1(a) c1\norder", "ok\n1\n"},
		{"order\nhistory w1(a) c1", "-\nok\n"},
		{"order\nvalue", "-\nbad\n"},
		{" ", "bad\n"},
		{"\n ", "bad\nbad\n"},
		// Only the last one: all other pieces that are empty are lines.
		{"\n", "bad\n"},
		{"\n\n", "bad\nbad\n"},
		{"\n\n\n", "bad\nbad\nbad\n"},
		{"\norder", "bad\n-\n"},
		{"order\n\n", "-\nbad\n"},
		{"order\n\nview", "-\nbad\n-\n"},
		{"order\n\n\nview\n", "-\nbad\nbad\n-\n"},
		{"history w1(a) c1\n\norder\n", "ok\nbad\n1\n"},
		// No other byte cuts.
		{"order\r\n", "bad\n"},
		{"order\r", "bad\n"},
		{"order\rview\n", "bad\n"},
		{"order\n\rview\n", "-\nbad\n"},
		{"\r\n", "bad\n"},
		{"order\vview", "bad\n"},
		{"order\fview", "bad\n"},
		{"order\x00view", "bad\n"},
		{"order\x85view", "bad\n"},
		{"order\u0085view", "bad\n"},
		{"order\u2028view", "bad\n"},
		{"order\u2029view", "bad\n"},
		{"order;view", "bad\n"},
		{`order\nview`, "bad\n"},
		{"history w1(a)\rorder\norder\n", "ErrSyntax\n-\n"},
		{"history w1(a) c1\r\norder\r\norder\n", "ErrSyntax\nbad\n-\n"},
		{"history w1(a)\nc1\norder\n", "ok\nbad\n-\n"},
	})
}

// TestEnds: Z1: whatever byte but 10 stands at a line's end, or ahead of it, it has not its words.
func TestEnds(t *testing.T) {
	for b := range 256 {
		if b == '\n' {
			continue
		}
		with := string([]byte{byte(b)})
		isBad(t, with)
		for _, row := range rows() {
			isBad(t, row+with)
			isBad(t, with+row)
		}
		isBad(t, with+"history w1(a)")
		if with != " " {
			isBad(t, "history"+with)
			isBad(t, "history"+with+"w1(a)")
		}
		answers(t, []asked{{"history w1(a)" + with + "\nhistory " + with + "c1\norder", "ErrSyntax\nErrSyntax\n-\n"}})
	}
}

// TestLong: Z1: a text of more than 3000 bytes is answered as a whole; one of just so many line by line.
func TestLong(t *testing.T) {
	const tooLong = "too long\n"
	full := func(ahead, line, behind string) string {
		n := (api.MaxRun - len(ahead) - len(behind)) / len(line)
		return ahead + strings.Repeat(line, n) + behind
	}
	for _, k := range []asked{
		{full("", "\n", ""), strings.Repeat("bad\n", 3000)},
		{full("", "order\n", ""), strings.Repeat("-\n", 500)},
		{full("order", "\n", "view"), "-\n" + strings.Repeat("bad\n", 2990) + "-\n"},
		{full("history w1(a) c1\n", "fly\n", "order\n\n"), "ok\n" + strings.Repeat("bad\n", 744) + "1\nbad\n"},
		{full("history w1(a) c1\nx", "xxxx", "\norder"), "ok\nbad\n1\n"},
		{full("history c1 c1 ", "c1 ", "c1\norder\n\n"), "ErrFull\n-\nbad\n"},
		{full("history ", "\u2028", "x"), "ErrSyntax\n"},
	} {
		less := strings.Replace(k.text, "\n", "", 1)
		if len(k.text) != api.MaxRun {
			t.Fatalf("%s is of %d bytes", short(k.text), len(k.text))
		}
		answers(t, []asked{
			k, {k.text + "\n", tooLong}, {k.text + "x", tooLong}, {"\n" + k.text, tooLong}, {"\x00" + k.text, tooLong},
			{k.text + k.text, tooLong}, {strings.Repeat(k.text, 1000), tooLong},
		})
		if got := run.Run(less); got == tooLong {
			t.Errorf("%s: got %q", short(less), got)
		}
	}
	for _, c := range []string{"x", " ", "\x00", "\xff", "\r"} {
		for _, n := range []int{1, api.MaxRun - 1, api.MaxRun} {
			answers(t, []asked{{strings.Repeat(c, n), "bad\n"}})
		}
		for _, n := range []int{api.MaxRun + 1, api.MaxRun + 2, 2 * api.MaxRun, 1 << 16, 1<<16 + 1, 1<<16 + api.MaxRun, 1 << 22} {
			answers(t, []asked{{strings.Repeat(c, n), tooLong}})
		}
	}
	// It is bytes that count, not runes.
	answers(t, []asked{
		{strings.Repeat("\u2028", api.MaxRun/3), "bad\n"},
		{strings.Repeat("\u2028", api.MaxRun/3+1), tooLong},
		{strings.Repeat("\u00e4", api.MaxRun/2), "bad\n"},
		{strings.Repeat("\u00e4", api.MaxRun/2+1), tooLong},
	})
}

// TestWords: Z1: a row has its words as it stands, and in no other form.
func TestWords(t *testing.T) {
	letter := func(s string, at int) string { return s[:at] + s[at+1:] }
	for _, row := range rows() {
		for _, ahead := range []string{"", "history r1(a) w2(a) c2 c1\n", "fly\n"} {
			if got := run.Run(ahead + row + "\n"); strings.HasSuffix(got, "bad\n") || strings.Count(got, "\n") != strings.Count(ahead, "\n")+1 {
				t.Errorf("%q: got %q", ahead+row, got)
			}
		}
		bad := []string{
			" " + row, row + " ", " " + row + " ", "  " + row, row + "  ",
			"\t" + row, row + "\t", row + "\u00a0", "\ufeff" + row, row + "\x00", "\x00" + row,
			strings.ToUpper(row), strings.ToUpper(row[:1]) + row[1:], row[:1] + strings.ToUpper(row[1:]),
			row + "s", "s" + row, row + row, row + ".", row + "()", "`" + row + "`", "-" + row, "/" + row,
			row + " " + row, row + " order", "order " + row, row + " 1", row + " -", row + " w1(a) c1", row + " x",
			row + " history w1(a)", row + ",order", row + "\\n",
		}
		for at := range row {
			other := []byte(row)
			other[at] |= 0x80
			bad = append(bad, letter(row, at), row[:at], row[:at]+" "+row[at:], row[:at]+row[at:at+1]+row[at:], string(other))
		}
		for _, line := range bad {
			isBad(t, line)
		}
	}
	for _, line := range []string{
		"history", " history", " history ", "  history w1(a) c1", " history w1(a) c1", "\thistory w1(a) c1", "\x00history w1(a) c1",
		"History w1(a) c1", "HISTORY w1(a) c1", "histor w1(a) c1", "istory w1(a) c1", "historys w1(a) c1", "historyw1(a) c1",
		"history\tw1(a) c1", "history\u00a0w1(a) c1", "history\x00w1(a) c1", "history\x00 w1(a) c1", "history\xff w1(a) c1",
		"history,w1(a) c1", "history: w1(a) c1", "hi story w1(a) c1", "order history w1(a) c1", "w1(a) c1", "TEXT", "history\r",
		"fly", "abort", "commit", "print", "parse", "serial", "strict", "locks", "tree", "stock", "log", "mix", "run", "done", "seen", "last",
		"help", "quit", "wound wait", "wait die", "wound-wait", "bad", "ok", "too long", "-", "0", "#", "# order", "\x00", "\xff", "\u00e4",
	} {
		isBad(t, line)
	}
}

// TestRefused: Z1: what Parse refuses is answered by its error's name, and the history that was there stays.
func TestRefused(t *testing.T) {
	full := strings.Repeat("r1(a) ", api.MaxOps-1)
	for _, k := range []struct{ text, name string }{
		// All behind the one blank is the text, up to the end: other blanks are wrong in it.
		{" ", "ErrSyntax"},
		{"  ", "ErrSyntax"},
		{" w1(a) c1", "ErrSyntax"},
		{"  w1(a) c1", "ErrSyntax"},
		{"w1(a) c1 ", "ErrSyntax"},
		{"w1(a)  c1", "ErrSyntax"},
		{"\tw1(a) c1", "ErrSyntax"},
		{"w1(a)\tc1", "ErrSyntax"},
		{"w1(a) c1\r", "ErrSyntax"},
		{"w1(a) c1\x00", "ErrSyntax"},
		{"w1(a) c1\xff", "ErrSyntax"},
		{"w1(\u00e4) c1", "ErrSyntax"},
		{"history w1(a) c1", "ErrSyntax"},
		{"order", "ErrSyntax"},
		{"-", "ErrSyntax"},
		{"W1(A) C1", "ErrSyntax"},
		{"w1(a) c1,", "ErrSyntax"},
		{"w1(a)c1", "ErrSyntax"},
		{"w1 c1", "ErrSyntax"},
		{"w1(a) c1(a)", "ErrSyntax"},
		{"w1(g) c1", "ErrSyntax"},
		{"w01(a) c1", "ErrSyntax"},
		{"w-1(a) c1", "ErrSyntax"},
		{"r1(xa)", "ErrSyntax"},
		{"c6x", "ErrSyntax"},
		{"w0(a) c0", "ErrRange"},
		{"w7(a) c7", "ErrRange"},
		{"c1 c7", "ErrRange"},
		{"c99999999999999999999", "ErrRange"},
		{"c1 c1", "ErrState"},
		{"w1(a) c1 r1(a)", "ErrState"},
		{"a2 w2(a)", "ErrState"},
		{full + "r1(a) c1", "ErrFull"},
		{full + "r1(a) c7", "ErrFull"},
		{full + "r1(a) r2(a) c1 c2", "ErrFull"},
		// Of several the form is told first, then that there are too many, then op by op.
		{"c1 c1 c7 x", "ErrSyntax"},
		{full + "r1(a) c1 x", "ErrSyntax"},
		{"c1 c1 c7", "ErrState"},
		{"c7 c1 c1", "ErrRange"},
	} {
		line := "history " + k.text + "\n"
		answers(t, []asked{
			{line, k.name + "\n"},
			{line + "order\nvalues\nvalid\nstamp\n", k.name + "\n-\n0 0 0 0 0 0\n-\n-\n"},
			{"history w2(b) c2\norder\n" + line + "order\nvalues\nvalid\nstamp\n", "ok\n2\n" + k.name + "\n2\n0 15 0 0 0 0\n2\nw2(b) c2\n"},
			{line + line + "history w2(b) c2\n" + line + "history w3(a) c3\n" + line + "order", k.name + "\n" + k.name + "\nok\n" + k.name + "\nok\n" + k.name + "\n3\n"},
		})
	}
	// So many ops may be, and are not refused.
	answers(t, []asked{{"history " + full + "c1\nstamp\norder", "ok\n" + full + "c1\n1\n"}})
}

// TestNone: Z1: there is a history of no ops at first; so there is where a text of no ops is taken.
func TestNone(t *testing.T) {
	want := map[string]string{"faces": "recoverable cautious strict rigorous", "values": "0 0 0 0 0 0"}
	for _, row := range rows() {
		answer := want[row]
		if answer == "" {
			answer = "-"
		}
		answers(t, []asked{
			{row, answer + "\n"},
			{row + "\n" + row + "\n", answer + "\n" + answer + "\n"},
			{"history \n" + row, "ok\n" + answer + "\n"},
			{"history r1(a) w2(a) w1(a) c1 c2\nhistory \n" + row, "ok\nok\n" + answer + "\n"},
			{"history\n" + row, "bad\n" + answer + "\n"},
		})
	}
}

// TestLater: Z1: a history is told of by all lines behind it, until another one is taken.
func TestLater(t *testing.T) {
	answers(t, []asked{
		{"order\nhistory c1\norder\norder\nvalues\norder\nhistory c2\norder\nhistory c1\norder", "-\nok\n1\n1\n0 0 0 0 0 0\n1\nok\n2\nok\n1\n"},
		{"history c1\nhistory c2\nhistory c3\norder\nview\nvalid", "ok\nok\nok\n3\n3\n3\n"},
		{"history c1\nfly\n\nhistory\nhistory x\nOrder\norder", "ok\nbad\nbad\nbad\nErrSyntax\nbad\n1\n"},
		{"history w1(a) c1\nvalues\nhistory w1(b) c1\nvalues\nhistory w1(a)\nvalues", "ok\n8 0 0 0 0 0\nok\n0 8 0 0 0 0\nok\n0 0 0 0 0 0\n"},
		// Another one takes its place: they are not put together.
		{"history w1(a) c1\nhistory r1(a) c1\nstamp\nhistory w2(a)\nhistory c2\nstamp", "ok\nok\nr1(a) c1\nok\nok\nc2\n"},
	})
	// No row changes it, whatever runs on it.
	for _, row := range rows() {
		got := run.Run("history r1(a) w2(a) w1(a) r3(b) w1(b) c2 c1 c3\n" + row + "\nstamp\n" + row + "\nills")
		told := strings.Split(got, "\n")
		if len(told) != 6 || told[1] != told[3] || told[2] != "r1(a) w2(a) a1 r3(b) c2 c3" || told[4] != "dirtywrite unrepeated lost" {
			t.Errorf("%s: got %q", row, got)
		}
	}
}

// TestAgain: P2 of DOC.md: what is answered hangs on the text alone.
func TestAgain(t *testing.T) {
	texts := []string{
		"", "order", "faces\nills\nvalues", "history w1(a) c1", "history w1(a) c1\norder\nvalues\nstamp", "history x\norder",
		"history r1(a) w2(a) w1(a) c1 c2\norder\nview\nills", "fly", strings.Repeat("\n", api.MaxRun+1),
	}
	var first []string
	for _, text := range texts {
		first = append(first, run.Run(text))
	}
	for i, text := range texts {
		for j, other := range texts {
			got := []string{run.Run(text), run.Run(other), run.Run(text)}
			if !slices.Equal(got, []string{first[i], first[j], first[i]}) {
				t.Errorf("%q, and %q between: got %q", text, other, got)
			}
		}
	}
}
