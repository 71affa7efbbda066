package run_test

import (
	"fmt"
	"slices"
	"strings"
	"testing"

	"locklane/api"
	"locklane/danger"
	"locklane/faces"
	"locklane/history"
	"locklane/ills"
	"locklane/play"
	"locklane/run"
	"locklane/serial"
	"locklane/snap"
	"locklane/stamp"
	"locklane/strict"
	"locklane/valid"
	"locklane/versions"
	"locklane/view"
)

// nameOf an error of a chapter.
func nameOf(err error) string { return err.(api.Errno).Error() }

// plainly is what a list comes to: its numbers, or the error's name.
func plainly(l []int, err error) string {
	if err != nil {
		return nameOf(err)
	}
	if len(l) == 0 {
		return "-"
	}
	return strings.Trim(fmt.Sprint(l), "[]")
}

// wordsOf a list of words and marks, in turn: each word of which the mark is true.
func wordsOf(all ...any) string {
	text := ""
	for i := 0; i < len(all); i += 2 {
		if all[i+1] == true {
			text += fmt.Sprint(" ", all[i])
		}
	}
	if text == "" {
		return "-"
	}
	return text[1:]
}

// told ops, letter by letter.
func told(l []api.Op, _ []int, err error) string {
	if err != nil {
		return nameOf(err)
	}
	if len(l) > api.MaxOps {
		return "ErrFull"
	}
	text := ""
	for _, o := range l {
		text += fmt.Sprintf(" %c%d", "?rwca"[o.What], o.Tx)
		if o.Item > 0 {
			text += fmt.Sprintf("(%c)", 'a'+o.Item-1)
		}
	}
	if text == "" {
		return "-"
	}
	return text[1:]
}

// byWords is what a history's rows are answered by the chapters.
func byWords(h []api.Op) map[string]string {
	f, _ := faces.Of(h)
	i, _ := ills.Of(h)
	done := func(out api.Outcome, err error) string { return plainly(out.Done, err) }
	return map[string]string{
		"order":     plainly(serial.Order(h)),
		"view":      plainly(view.Order(h)),
		"faces":     wordsOf("recoverable", f.Recoverable, "cautious", f.Cautious, "strict", f.Strict, "rigorous", f.Rigorous),
		"ills":      wordsOf("dirtywrite", i.DirtyWrite, "dirtyread", i.DirtyRead, "unrepeated", i.Unrepeated, "lost", i.Lost),
		"values":    plainly(play.Values(h)),
		"detect":    told(strict.Run(h, api.Detect)),
		"waitdie":   told(strict.Run(h, api.WaitDie)),
		"woundwait": told(strict.Run(h, api.WoundWait)),
		"stamp":     told(stamp.Run(h, false)),
		"valid":     done(valid.Run(h)),
		"snap":      done(snap.Run(h)),
		"danger":    done(danger.Run(h)),
		"versions":  done(versions.Run(h)),
	}
}

// replay answers the pieces of a text, byte 10 behind each, with nothing kept but the last history that was taken.
func replay(text string) string {
	pieces := strings.Split(text, "\n")
	if pieces[len(pieces)-1] == "" {
		pieces = pieces[:len(pieces)-1]
	}
	answer := ""
	rows := byWords(nil)
	for _, p := range pieces {
		said, is := rows[p]
		if !is {
			said = "bad"
		}
		if strings.HasPrefix(p, "history ") {
			h, err := history.Parse(p[len("history "):])
			if err == nil {
				rows, said = byWords(h), "ok"
			} else {
				said = nameOf(err)
			}
		}
		answer += said + "\n"
	}
	return answer
}

// beginnings holds a text's answers against those to each beginning of it that is cut behind a byte 10, and one answer a line.
func beginnings(t *testing.T, text, answer string) {
	t.Helper()
	for at := range text {
		if text[at] != '\n' {
			continue
		}
		first := run.Run(text[:at+1])
		if !strings.HasPrefix(answer, first) || strings.Count(first, "\n") != strings.Count(text[:at+1], "\n") {
			t.Fatalf("%s: got %s, and of its beginning %s %s", short(text), short(answer), short(text[:at+1]), short(first))
		}
	}
}

// roller mixes numbers by a rule.
func roller() func(int) int {
	rule := uint64(1)
	return func(n int) int {
		rule = rule*6364136223846793005 + 1442695040888963407
		return int(rule>>33) % n
	}
}

// over tells whether a deal has ended.
func over(h []api.Op, tx int) bool {
	return slices.ContainsFunc(h, func(o api.Op) bool { return o.Tx == tx && o.Item == 0 })
}

// mixed ops of up to six deals on one to three items; most deals end, and most that do commit.
func mixed(roll func(int) int) []api.Op {
	deals, items, n := roll(api.MaxTx)+1, roll(api.MaxItem)/2+1, roll(14)
	if roll(20) == 0 {
		n = api.MaxOps - deals
	}
	var h []api.Op
	for range n {
		o := api.Op{Tx: roll(deals) + 1, What: roll(2) + 1, Item: roll(items) + 1}
		if roll(8) == 0 {
			o = api.Op{Tx: o.Tx, What: []int{api.Commit, api.Commit, api.Abort}[roll(3)]}
		}
		if !over(h, o.Tx) {
			h = append(h, o)
		}
	}
	for tx := deals; tx > 0; tx-- {
		if !over(h, tx) && roll(4) > 0 {
			h = append(h, api.Op{Tx: tx, What: api.Commit})
		}
	}
	return h
}

// line of a mixed text: mostly a row or a history, some of which are wrong.
func line(t *testing.T, roll func(int) int) string {
	t.Helper()
	row := rows()[roll(len(rows()))]
	switch roll(12) {
	case 0:
		return []string{"", " ", "fly", "history", "history ", "history x", "history c1 c1", "history c7", "\r", "-"}[roll(10)]
	case 1:
		return []string{" " + row, row + " ", strings.ToUpper(row), row + "\r", row[1:], row + " " + row}[roll(6)]
	case 2, 3, 4:
		text, err := history.Print(mixed(roll))
		if err != nil {
			t.Fatal(err)
		}
		return "history " + text + []string{"", "", "", "", "", "", " ", " c1 c1"}[roll(8)]
	}
	return row
}

// TestMixed: Z1 and Z2: mixed texts, line by line against the chapters.
func TestMixed(t *testing.T) {
	roll := roller()
	said := map[string]int{}
	for range 800 {
		var lines []string
		for range roll(24) {
			lines = append(lines, line(t, roll))
		}
		text := strings.Join(lines, "\n")
		if roll(2) == 0 {
			text += "\n"
		}
		want := replay(text)
		if len(text) > api.MaxRun {
			want = "too long\n"
		}
		got := run.Run(text)
		if got != want {
			t.Fatalf("%q: got %q, want %q", text, got, want)
		}
		if len(text) <= api.MaxRun {
			beginnings(t, text, got)
		}
		for _, word := range strings.Fields(got) {
			said[word]++
		}
	}
	for _, word := range []string{"ok", "bad", "-", "ErrSyntax", "ErrRange", "ErrState", "ErrCycle", "ErrNone", "rigorous", "lost", "a2"} {
		if said[word] < 20 {
			t.Errorf("%q was said %d times", word, said[word])
		}
	}
}

// TestBeginnings: Z2: of texts that are as long as may be, and of those that begin one that is too long.
func TestBeginnings(t *testing.T) {
	roll := roller()
	for range 8 {
		text := ""
		for len(text) <= api.MaxRun {
			text += line(t, roll) + "\n"
		}
		if got := run.Run(text); got != "too long\n" {
			t.Fatalf("%s: got %s", short(text), short(got))
		}
		text = text[:api.MaxRun]
		text = text[:strings.LastIndexByte(text, '\n')+1]
		answer := run.Run(text)
		if want := replay(text); answer != want {
			t.Fatalf("%s: got %s, want %s", short(text), short(answer), short(want))
		}
		beginnings(t, text, answer)
		// A last piece without its byte 10 may be the beginning of another line; what is ahead of it stays.
		for at := range text {
			whole := strings.LastIndexByte(text[:at], '\n') + 1
			if at%7 == 0 && !strings.HasPrefix(run.Run(text[:at]), run.Run(text[:whole])) {
				t.Fatalf("%s: what is told of whole lines is not told any more", short(text[:at]))
			}
		}
	}
}

// TestBytes: P1 of DOC.md and Z1: texts of any bytes are answered, each line by one.
func TestBytes(t *testing.T) {
	roll := roller()
	some := []string{"\n", "\n", "\n", " ", "history ", "history", "order", "view", "w1(a)", "c1", " ", "r", "(", ")", "\x00", "\xff", "7", "-"}
	for range 20000 {
		text := ""
		for range roll(12) {
			if roll(6) == 0 {
				text += string([]byte{byte(roll(256))})
			} else {
				text += some[roll(len(some))]
			}
		}
		if got, want := run.Run(text), replay(text); got != want {
			t.Fatalf("%q: got %q, want %q", text, got, want)
		}
	}
}
