package history_test

import (
	"regexp"
	"slices"
	"strings"
	"testing"

	"locklane/api"
	"locklane/history"
	"locklane/plain"
)

// texts: histories, and how they are written.
var texts = []struct {
	h    []api.Op
	text string
}{
	{nil, ""},
	{[]api.Op{r(1, 1)}, "r1(a)"},
	{[]api.Op{w(2, 2)}, "w2(b)"},
	{[]api.Op{c(1)}, "c1"},
	{[]api.Op{a(2)}, "a2"},
	{[]api.Op{r(1, 1), w(2, 2), c(1), a(2)}, "r1(a) w2(b) c1 a2"},
	{[]api.Op{w(6, 6), r(5, 5), w(4, 4), r(3, 3), c(6)}, "w6(f) r5(e) w4(d) r3(c) c6"},
	{[]api.Op{a(6), c(5), a(4), c(3)}, "a6 c5 a4 c3"},
}

// TestPrint: H2, Print.
func TestPrint(t *testing.T) {
	for _, k := range texts {
		got, err := history.Print(k.h)
		if err != nil || got != k.text {
			t.Errorf("%v: got %q %v, want %q", k.h, got, err, k.text)
		}
	}
}

// TestParse: H2, Parse of what is one.
func TestParse(t *testing.T) {
	for _, k := range texts {
		got, err := history.Parse(k.text)
		if err != nil || !slices.Equal(got, k.h) {
			t.Errorf("%q: got %v %v, want %v", k.text, got, err, k.h)
		}
	}
}

// TestThereAndBack: H2: each op, and MaxOps of them, is what its text says.
func TestThereAndBack(t *testing.T) {
	all := [][]api.Op{reads(api.MaxOps)}
	for tx := 1; tx <= api.MaxTx; tx++ {
		all = append(all, []api.Op{c(tx)}, []api.Op{a(tx)})
		for item := 1; item <= api.MaxItem; item++ {
			all = append(all, []api.Op{r(tx, item)}, []api.Op{w(tx, item), c(tx)})
		}
	}
	seen := map[string]int{}
	for _, h := range all {
		text, err := history.Print(h)
		if err != nil {
			t.Fatalf("%v: %v", h, err)
		}
		seen[text]++
		back, err := history.Parse(text)
		if err != nil || !slices.Equal(back, h) {
			t.Errorf("%q: got %v %v, want %v", text, back, err, h)
		}
	}
	if len(seen) != len(all) {
		t.Errorf("%d histories have %d texts", len(all), len(seen))
	}
}

// TestParseSyntax: H2: what is not just such a text.
func TestParseSyntax(t *testing.T) {
	for _, text := range []string{
		" ", "  ", " r1(a)", "r1(a) ", "r1(a)  c1", "r1(a)c1", "r1(a),c1", "r1(a)\tc1", "r1(a)\nc1", "r1(a)\n", "r1(a)\x00",
		"r", "w", "c", "a", "1", "(a)", "()", "r1", "w1", "r(a)", "w()", "r1()", "r1(a", "r1a)", "r1a", "r1)a(", "r1(ab)", "r1(a))", "r1((a)", "r1(a)(a)",
		"c1(a)", "a1(b)", "c1()", "c1x", "x1", "x1(a)", "R1(a)", "C1", "rr(b)", "rw1(a)", "1r(a)",
		"r1(A)", "r1(g)", "r1(z)", "r1(0)", "r1(1)", "r1(`)", "r1( )", "r1(\xe1)", "r1(á)", "r1(\xff)",
		"r01(a)", "c01", "c00", "a001", "r-1(a)", "c-1", "c+1", "c 1", "r 1(a)", "r1 (a)", "r1( a)", "c1.0", "c0x1", "c1_0", "c１", "c\xb1",
		"-", "ok", "history", "r1(a) ok", "ok r1(a)",
	} {
		got, err := history.Parse(text)
		if plain.Told(err) != api.ErrSyntax || len(got) > 0 {
			t.Errorf("%q: got %v %v, want %v", text, got, err, api.ErrSyntax)
		}
	}
}

// TestParseChecks: H2: what is such a text, but of no history that may be; the form is told of first.
func TestParseChecks(t *testing.T) {
	full := strings.Repeat("r1(a) ", api.MaxOps)
	for _, k := range []struct {
		text string
		err  api.Errno
	}{
		{"c1 r1(a)", api.ErrState},
		{"a2 a2", api.ErrState},
		{"r0(a)", api.ErrRange},
		{"c0", api.ErrRange},
		{"r7(a)", api.ErrRange},
		{"a7", api.ErrRange},
		{"r10(a)", api.ErrRange},
		{"c16", api.ErrRange},
		{"c9223372036854775807", api.ErrRange},
		{"c18446744073709551617", api.ErrRange}, // 2^64 and 1: deal 1, if it went round
		{"r1" + strings.Repeat("0", 5000) + "1(a)", api.ErrRange},
		{"c1 c1 r7(a)", api.ErrState},
		{"r7(a) c1 c1", api.ErrRange},
		{full + "c1", api.ErrFull},
		{full + "r7(a)", api.ErrFull},
		{"r7(a) " + full + "c1", api.ErrFull},
		{strings.Repeat(full, 50) + "c1", api.ErrFull},
		{full + "c1 ", api.ErrSyntax},
		{full, api.ErrSyntax},
		{strings.Repeat(full, 50) + "x", api.ErrSyntax},
		{"r7(a) c1 c1 x", api.ErrSyntax},
		{"c1 c1 c01", api.ErrSyntax},
	} {
		got, err := history.Parse(k.text)
		if plain.Told(err) != k.err || len(got) > 0 {
			t.Errorf("%.60q: got %v %v, want %v", k.text, got, err, k.err)
		}
	}
}

// TestParseForm holds Parse against the form, written as one pattern: all short texts, and such as are nearly right.
func TestParseForm(t *testing.T) {
	const op = `([rw](0|[1-9][0-9]*)\([a-f]\)|[ca](0|[1-9][0-9]*))`
	form := regexp.MustCompile(`\A(` + op + `( ` + op + `)*)?\z`)
	try := func(text string) {
		h, err := history.Parse(text)
		if bad := plain.Told(err) == api.ErrSyntax; bad == form.MatchString(text) {
			t.Errorf("%q: got %v %v", text, h, err)
		}
		if err != nil {
			return
		}
		if back, err := history.Print(h); err != nil || back != text {
			t.Errorf("%q: comes back as %q %v", text, back, err)
		}
	}
	each("rca106(g) ", 5, try)
	const right = "r1(a) w2(b) c1 a2 r6(f)"
	for i := range len(right) + 1 {
		for b := range 256 {
			add := string([]byte{byte(b)})
			try(right[:i] + add + right[i:])
			if i < len(right) {
				try(right[:i] + add + right[i+1:])
			}
		}
		try(right[:i])
		try(right[i:])
	}
}

// each gives all texts of at most n of the letters.
func each(letters string, n int, give func(string)) {
	var grow func(string)
	grow = func(text string) {
		give(text)
		if len(text) == n {
			return
		}
		for i := range len(letters) {
			grow(text + letters[i:i+1])
		}
	}
	grow("")
}
