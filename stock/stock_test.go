package stock_test

import (
	"math"
	"strconv"
	"strings"
	"testing"

	"locklane/api"
	"locklane/plain"
	"locklane/stock"
)

const most = api.MaxStock

// numbersThatAreNoDeals are just outside, and far.
var numbersThatAreNoDeals = []int{0, -1, -api.MaxTx, api.MaxTx + 1, api.MaxTx + 2, 61, math.MinInt, math.MinInt + 1, math.MaxInt}

// numbersThatAreNoAsks are 0, just outside, and far; those of which an int32 would make one that may be too.
var numbersThatAreNoAsks = []int{0, most + 1, -most - 1, 2 * most, -2 * most, 1<<32 + 1, -1<<32 - 1, math.MinInt, math.MinInt + 1, math.MaxInt}

func stockOf(t *testing.T, n int) *stock.Stock {
	t.Helper()
	s, err := stock.New(n)
	if err != nil || s == nil {
		t.Fatalf("New(%d): got %v %v", n, s, err)
	}
	return s
}

// told of an answer and its error; with an error the answer is what none is.
func told(answer, none string, err error) string {
	if err == nil {
		return answer
	}
	if answer != none {
		return answer + " and " + err.Error()
	}
	return err.Error()
}

// do a call of a text: `1+5` and `2-3` Ask, `1c` is End with commit, `1a` without; and what it told.
func do(s *stock.Stock, text string) string {
	tx := int(text[0] - '0')
	if what := text[1:]; what == "c" || what == "a" {
		n, err := s.End(tx, what == "c")
		return told(strconv.Itoa(n), "0", err)
	}
	d, err := strconv.Atoi(text[1:])
	if err != nil {
		return err.Error()
	}
	may, err := s.Ask(tx, d)
	return told(map[bool]string{true: "yes", false: "no"}[may], "no", err)
}

// mayAll holds that all of these calls may be.
func mayAll(t *testing.T, s *stock.Stock, calls string) {
	t.Helper()
	for _, w := range strings.Fields(calls) {
		if got := do(s, w); got != "yes" {
			t.Fatalf("%s of %s: got %s", w, calls, got)
		}
	}
}

// stands tells Now and Range, asked twice, as they change nothing.
func stands(s *stock.Stock) string {
	once := ""
	for i := range 2 {
		low, high := s.Range()
		text := strconv.Itoa(s.Now()) + "," + strconv.Itoa(low) + "," + strconv.Itoa(high)
		if i > 0 && text != once {
			return once + " then " + text
		}
		once = text
	}
	return once
}

// script is calls on a Stock of n, one behind the other: `1-5=yes@9,4,9` is what was asked, what was told, then Now and Range.
type script struct {
	n     int
	calls string
}

func goes(t *testing.T, all []script) {
	t.Helper()
	for _, k := range all {
		s := stockOf(t, k.n)
		begin := strconv.Itoa(k.n)
		if got := stands(s); got != begin+","+begin+","+begin {
			t.Errorf("%d: at first %s", k.n, got)
		}
		for _, w := range strings.Fields(k.calls) {
			call, _, _ := strings.Cut(w, "=")
			if got := call + "=" + do(s, call) + "@" + stands(s); got != w {
				t.Errorf("%d, %q: got %q, want %q", k.n, k.calls, got, w)
			}
		}
	}
}

// TestNew: S1: how much there may be at first.
func TestNew(t *testing.T) {
	for _, n := range []int{0, 1, 2, 25, most - 1, most} {
		s := stockOf(t, n)
		low, high := s.Range()
		if s.Now() != n || low != n || high != n {
			t.Errorf("New(%d): now %d, from %d to %d", n, s.Now(), low, high)
		}
	}
	for _, n := range []int{-1, -2, -most, most + 1, 2 * most, 1 << 32, 1<<32 + 5, math.MinInt, math.MaxInt} {
		if s, err := stock.New(n); s != nil || plain.Told(err) != api.ErrRange {
			t.Errorf("New(%d): got %v %v", n, s, err)
		}
	}
}

// TestAskRange: S1: numbers that may not be, in a Stock that nobody asked, and in one that deals have, which stays as it was.
func TestAskRange(t *testing.T) {
	for _, asked := range []string{"", "1-5 2+7 3-1 3+1 6+2"} {
		s := stockOf(t, 10)
		mayAll(t, s, asked)
		was := stands(s)
		refused := func(tx, d int) {
			t.Helper()
			if may, err := s.Ask(tx, d); may || plain.Told(err) != api.ErrRange {
				t.Errorf("Ask(%d, %d): got %v %v", tx, d, may, err)
			}
			if got := stands(s); got != was {
				t.Errorf("Ask(%d, %d): stood as %s, now as %s", tx, d, was, got)
			}
		}
		for _, tx := range numbersThatAreNoDeals {
			for _, d := range append([]int{1, -1, most, -most}, numbersThatAreNoAsks...) {
				refused(tx, d)
			}
		}
		for tx := 1; tx <= api.MaxTx; tx++ {
			for _, d := range numbersThatAreNoAsks {
				refused(tx, d)
			}
		}
		// What may not be asked is nothing that was asked.
		for tx := 4; tx <= 5; tx++ {
			if n, err := s.End(tx, true); n != 0 || plain.Told(err) != api.ErrNone {
				t.Errorf("End(%d): got %d %v", tx, n, err)
			}
		}
	}
}

// TestEndRange: S1: deals that are none, committed and not, whether others asked or did not.
func TestEndRange(t *testing.T) {
	s := stockOf(t, 10)
	for _, call := range []string{"", "1-5", "6+7"} {
		if call != "" && do(s, call) != "yes" {
			t.Fatal(call)
		}
		was := stands(s)
		for _, tx := range numbersThatAreNoDeals {
			for _, commit := range []bool{true, false} {
				if n, err := s.End(tx, commit); n != 0 || plain.Told(err) != api.ErrRange {
					t.Errorf("End(%d, %v): got %d %v", tx, commit, n, err)
				}
				if got := stands(s); got != was {
					t.Errorf("End(%d, %v): stood as %s, now as %s", tx, commit, was, got)
				}
			}
		}
	}
}

// TestBounds: S1: just as much as there is and one more, just up to MaxStock and one more.
func TestBounds(t *testing.T) {
	goes(t, []script{
		{7, "1-7=yes@7,0,7 1-1=no@7,0,7 1c=0@0,0,0"},
		{7, "1-8=no@7,7,7 1-7=yes@7,0,7 1a=7@7,7,7"},
		{7, "1-6=yes@7,1,7 2-2=no@7,1,7 2-1=yes@7,0,7 3-1=no@7,0,7"},
		{0, "1-1=no@0,0,0 1-1000000=no@0,0,0 6-1=no@0,0,0"},
		{0, "1+1000000=yes@0,0,1000000 1+1=no@0,0,1000000 2+1=no@0,0,1000000 1c=1000000@1000000,1000000,1000000"},
		{0, "1-1000001=ErrRange@0,0,0 1+1000001=ErrRange@0,0,0 1+0=ErrRange@0,0,0 1-0=ErrRange@0,0,0"},
		{1, "1+1000000=no@1,1,1 1+999999=yes@1,1,1000000 1-1=yes@1,0,1000000"},
		{1000000, "1+1=no@1000000,1000000,1000000 1+1000000=no@1000000,1000000,1000000"},
		{1000000, "1-1000000=yes@1000000,0,1000000 1-1=no@1000000,0,1000000 2-1=no@1000000,0,1000000 1c=0@0,0,0"},
		{999999, "1+2=no@999999,999999,999999 1+1=yes@999999,999999,1000000 2+1=no@999999,999999,1000000"},
		{999999, "1-1000000=no@999999,999999,999999 1-999999=yes@999999,0,999999"},
	})
}

// TestOthers: S1: what others asked and have not ended counts, of those that take for those that take, of those that add for those that add.
func TestOthers(t *testing.T) {
	goes(t, []script{
		{10, "1-4=yes@10,6,10 2-4=yes@10,2,10 3-3=no@10,2,10 3-2=yes@10,0,10"},
		{10, "1+999000=yes@10,10,999010 2+900=yes@10,10,999910 3+91=no@10,10,999910 3+90=yes@10,10,1000000"},
		// What is to be added makes no room to take, nor the other way round.
		{10, "1+5=yes@10,10,15 2-11=no@10,10,15 2-10=yes@10,0,15 3-1=no@10,0,15"},
		{999990, "1-5=yes@999990,999985,999990 2+11=no@999990,999985,999990 2+10=yes@999990,999985,1000000 3+1=no@999990,999985,1000000"},
		{0, "1+5=yes@0,0,5 1-1=no@0,0,5 2-1=no@0,0,5 1c=5@5,5,5 1-1=yes@5,4,5 2-4=yes@5,0,5"},
		{1000000, "1-5=yes@1000000,999995,1000000 1+1=no@1000000,999995,1000000 1c=999995@999995,999995,999995 1+5=yes@999995,999995,1000000"},
		// When it has ended it counts no more, whichever way.
		{10, "1-10=yes@10,0,10 2-1=no@10,0,10 1a=10@10,10,10 2-1=yes@10,9,10"},
		{10, "1-9=yes@10,1,10 2-2=no@10,1,10 1c=1@1,1,1 2-2=no@1,1,1 2-1=yes@1,0,1"},
		{10, "1+999990=yes@10,10,1000000 2+1=no@10,10,1000000 1a=10@10,10,10 2+1=yes@10,10,11"},
		{10, "1+999989=yes@10,10,999999 2+2=no@10,10,999999 1c=999999@999999,999999,999999 2+1=yes@999999,999999,1000000"},
		// All deals at once.
		{6, "1-1=yes@6,5,6 2-1=yes@6,4,6 3-1=yes@6,3,6 4-1=yes@6,2,6 5-1=yes@6,1,6 6-1=yes@6,0,6 1-1=no@6,0,6" +
			" 3c=5@5,0,5 6a=5@5,1,5 1c=4@4,1,4 5a=4@4,2,4 2c=3@3,2,3 4c=2@2,2,2"},
	})
}

// TestMore: S1: a deal that asks more than once, both ways, and what may not does not count.
func TestMore(t *testing.T) {
	goes(t, []script{
		{10, "1-3=yes@10,7,10 1-4=yes@10,3,10 1-4=no@10,3,10 1-3=yes@10,0,10 1c=0@0,0,0"},
		{10, "1+3=yes@10,10,13 1+3=yes@10,10,16 1c=16@16,16,16"},
		{10, "1-3=yes@10,7,10 1+3=yes@10,7,13 1-7=yes@10,0,13 1-1=no@10,0,13 1c=3@3,3,3"},
		{10, "1+5=yes@10,10,15 1-2=yes@10,8,15 1+1=yes@10,8,16 1-4=yes@10,4,16 1a=10@10,10,10"},
		{10, "1-3=yes@10,7,10 1+3=yes@10,7,13 1c=10@10,10,10 1c=ErrNone@10,10,10"},
		{10, "1-11=no@10,10,10 1-4=yes@10,6,10 1-7=no@10,6,10 1+999991=no@10,6,10 1c=6@6,6,6"},
		{10, "1+999991=no@10,10,10 2+4=yes@10,10,14 2+999990=no@10,10,14 2-11=no@10,10,14 2c=14@14,14,14"},
		{10, "1-4=yes@10,6,10 1-0=ErrRange@10,6,10 1-1000001=ErrRange@10,6,10 0-1=ErrRange@10,6,10 1c=6@6,6,6"},
		{10, "1-4=yes@10,6,10 2-5=yes@10,1,10 1+2=yes@10,1,12 2+3=yes@10,1,15 1c=8@8,3,11 2c=6@6,6,6"},
		{10, "1-4=yes@10,6,10 2-5=yes@10,1,10 1+2=yes@10,1,12 2+3=yes@10,1,15 2a=10@10,6,12 1c=8@8,8,8"},
	})
}

// TestEnd: S1: of a deal that asked nothing, only what it may not, or has ended, and of one that asks again.
func TestEnd(t *testing.T) {
	goes(t, []script{
		{3, "1c=ErrNone@3,3,3 1a=ErrNone@3,3,3 6c=ErrNone@3,3,3 6a=ErrNone@3,3,3"},
		{3, "1-4=no@3,3,3 1c=ErrNone@3,3,3 1-4=no@3,3,3 1a=ErrNone@3,3,3"},
		{3, "1+1000000=no@3,3,3 1c=ErrNone@3,3,3 1+0=ErrRange@3,3,3 1a=ErrNone@3,3,3"},
		{3, "1-3=yes@3,0,3 2c=ErrNone@3,0,3 2a=ErrNone@3,0,3 2-1=no@3,0,3 2c=ErrNone@3,0,3 1c=0@0,0,0"},
		{3, "1-1=yes@3,2,3 1c=2@2,2,2 1c=ErrNone@2,2,2 1a=ErrNone@2,2,2"},
		{3, "1-1=yes@3,2,3 1a=3@3,3,3 1a=ErrNone@3,3,3 1c=ErrNone@3,3,3"},
		{3, "1+1=yes@3,3,4 1a=3@3,3,3 1c=ErrNone@3,3,3"},
		{3, "1-1=yes@3,2,3 1c=2@2,2,2 1-1=yes@2,1,2 1c=1@1,1,1 1-1=yes@1,0,1 1c=0@0,0,0 1-1=no@0,0,0 1c=ErrNone@0,0,0"},
		{3, "1-3=yes@3,0,3 1a=3@3,3,3 1+2=yes@3,3,5 1c=5@5,5,5 1-5=yes@5,0,5 1a=5@5,5,5"},
		{0, "0c=ErrRange@0,0,0 7c=ErrRange@0,0,0 0a=ErrRange@0,0,0 7a=ErrRange@0,0,0 7+1=ErrRange@0,0,0"},
	})
}

// TestApart: S1 and P2 of DOC.md: two Stocks do not touch each other, though the same deals ask both.
func TestApart(t *testing.T) {
	one, other := stockOf(t, 10), stockOf(t, 10)
	for _, k := range []struct {
		s                *stock.Stock
		call, want, left string
	}{
		{one, "1-10", "yes", "10,10,10"},
		{other, "1-10", "yes", "10,0,10"},
		{one, "1c", "0", "10,0,10"},
		{other, "1+5", "yes", "0,0,0"},
		{one, "2+5", "yes", "10,0,15"},
		{other, "2c", "ErrNone", "0,0,5"},
		{other, "1a", "10", "0,0,5"},
		{one, "1c", "ErrNone", "10,10,10"},
		{one, "2a", "0", "10,10,10"},
	} {
		if got := do(k.s, k.call); got != k.want {
			t.Errorf("%s: got %s, want %s", k.call, got, k.want)
		}
		beside := one
		if k.s == one {
			beside = other
		}
		if got := stands(beside); got != k.left {
			t.Errorf("%s: the one beside is %s, want %s", k.call, got, k.left)
		}
	}
}

// call of Ask, or, where d is 0, of End.
type call struct {
	tx, d  int
	commit bool
}

// asked is one thing that a deal asked, and may.
type asked struct {
	tx, d            int
	ended, committed bool
}

// notes are all that was ever asked, and may: S1 told without the program.
type notes struct {
	n   int
	all []asked
}

// stands: how much there is, the least and the greatest that there may be.
func (k *notes) stands() (now, low, high int) {
	now = k.n
	for _, a := range k.all {
		if a.committed {
			now += a.d
		}
	}
	low, high = now, now
	for _, a := range k.all {
		switch {
		case a.ended:
		case a.d < 0:
			low += a.d
		default:
			high += a.d
		}
	}
	return now, low, high
}

func (k *notes) ask(tx, d int) (bool, api.Errno) {
	if tx < 1 || tx > api.MaxTx || d == 0 || max(d, -d) > most || d == math.MinInt {
		return false, api.ErrRange
	}
	with := notes{k.n, append(k.all[:len(k.all):len(k.all)], asked{tx: tx, d: d})}
	_, low, high := with.stands()
	if low < 0 || high > most {
		return false, api.OK
	}
	*k = with
	return true, api.OK
}

func (k *notes) end(tx int, commit bool) (int, api.Errno) {
	if tx < 1 || tx > api.MaxTx {
		return 0, api.ErrRange
	}
	had := false
	for at, a := range k.all {
		if a.tx == tx && !a.ended {
			had = true
			k.all[at].ended, k.all[at].committed = true, commit
		}
	}
	if !had {
		return 0, api.ErrNone
	}
	now, _, _ := k.stands()
	return now, api.OK
}

// byWords does a call and holds what it tells, and what stands then, against the notes.
func byWords(t *testing.T, s *stock.Stock, k *notes, c call) api.Errno {
	t.Helper()
	var want api.Errno
	if c.d != 0 {
		may, err := s.Ask(c.tx, c.d)
		is, no := k.ask(c.tx, c.d)
		if want = no; may != is || plain.Told(err) != want {
			t.Fatalf("%v: %v: got %v %v, want %v %v", *k, c, may, err, is, want)
		}
	} else {
		n, err := s.End(c.tx, c.commit)
		now, no := k.end(c.tx, c.commit)
		if want = no; n != now || plain.Told(err) != want {
			t.Fatalf("%v: %v: got %v %v, want %v %v", *k, c, n, err, now, want)
		}
	}
	low, high := s.Range()
	now, least, greatest := k.stands()
	if s.Now() != now || low != least || high != greatest {
		t.Fatalf("%v: %v: got %d from %d to %d, want %d from %d to %d", *k, c, s.Now(), low, high, now, least, greatest)
	}
	if low < 0 || low > now || now > high || high > most {
		t.Fatalf("%v: %v: %d from %d to %d is not right whatever becomes of it", *k, c, now, low, high)
	}
	return want
}

// TestSmall: S1: all short lists of calls of few deals, where there is little, and where there is nearly all.
func TestSmall(t *testing.T) {
	for _, k := range []struct {
		n, deals, long int
		d              []int
	}{
		{0, 2, 5, []int{-1, 1, 2}},
		{1, 2, 5, []int{-1, 1}},
		{2, 2, 5, []int{-2, -1, 1}},
		{2, 3, 4, []int{-1, 1, most - 2}},
		{3, 2, 4, []int{-2, -1, 1, most - 4, most, -most}},
		{most - 1, 2, 4, []int{-most, 1 - most, -1, 1, most}},
		{most, 2, 5, []int{-1, 1, -most}},
	} {
		var calls []call
		for tx := 1; tx <= k.deals; tx++ {
			calls = append(calls, call{tx: tx}, call{tx: tx, commit: true})
			for _, d := range k.d {
				calls = append(calls, call{tx: tx, d: d})
			}
		}
		var l []call
		var grow func()
		grow = func() {
			if len(l) == k.long {
				s, said := stockOf(t, k.n), &notes{n: k.n}
				for _, c := range l {
					byWords(t, s, said, c)
				}
				return
			}
			for _, c := range calls {
				l = append(l, c)
				grow()
				l = l[:len(l)-1]
			}
		}
		grow()
	}
}

// mixer of numbers, by a rule.
func mixer() func(n int) int {
	mixed := uint64(1)
	return func(n int) int {
		mixed = mixed*6364136223846793005 + 1442695040888963407
		return int(mixed>>33) % n
	}
}

// asks of about so much, now and then just what there is to take or to add, or one more, or what may not be.
func asks(roll func(int) int, s *stock.Stock) int {
	low, high := s.Range()
	switch roll(12) {
	case 0:
		return -low
	case 1:
		return -low - 1
	case 2:
		return most - high
	case 3:
		return most - high + 1
	case 4:
		return numbersThatAreNoAsks[roll(len(numbersThatAreNoAsks))]
	case 5, 6, 7:
		return -roll(most/4) - 1
	}
	return roll(most/4) + 1
}

// TestGreat: S1: six deals, and some that are none, on Stocks of all sizes, for long, by a rule that mixes numbers.
func TestGreat(t *testing.T) {
	roll := mixer()
	told := map[api.Errno]int{}
	for i := range 1000 {
		n := []int{0, most, roll(10), most - roll(10), roll(most + 1)}[i%5]
		s, k := stockOf(t, n), &notes{n: n}
		for range 120 {
			c := call{tx: roll(api.MaxTx) + 1, commit: roll(2) > 0}
			if roll(30) == 0 {
				c.tx = numbersThatAreNoDeals[roll(len(numbersThatAreNoDeals))]
			}
			if roll(3) > 0 {
				c.d = asks(roll, s)
			}
			told[byWords(t, s, k, c)]++
		}
	}
	if len(told) != 3 {
		t.Errorf("%v: not all that may be told", told)
	}
}

// TestWhatever: DOC.md, what is to be true of the whole: there is never less than none, nor more than MaxStock, and always what Range told, whoever commits, in whichever order.
func TestWhatever(t *testing.T) {
	for _, text := range []string{
		"1-4 2+999990 3-6", "1+5 1-3 2-7 3+2 2+999983", "1-9 2+1 3+2 3-1", "1-1 2-1 3-1 1-7", "1+1 2+2 3+3 1-10",
	} {
		var end func(ends []call)
		end = func(ends []call) {
			s := stockOf(t, 10)
			mayAll(t, s, text)
			least, greatest := s.Range()
			if least < 0 || greatest > most {
				t.Fatalf("%s: from %d to %d", text, least, greatest)
			}
			done := map[int]bool{}
			for _, c := range ends {
				n, err := s.End(c.tx, c.commit)
				low, high := s.Range()
				if err != nil || n < least || n > greatest || low < least || high > greatest {
					t.Fatalf("%s, %v: got %d %v, from %d to %d", text, ends, n, err, low, high)
				}
				least, greatest = low, high
				done[c.tx] = true
			}
			for tx := 1; tx <= 3; tx++ {
				if !done[tx] {
					end(append(ends[:len(ends):len(ends)], call{tx: tx}))
					end(append(ends[:len(ends):len(ends)], call{tx: tx, commit: true}))
				}
			}
		}
		end(nil)
	}
}
