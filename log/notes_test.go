package log_test

import (
	"math"
	"slices"
	"testing"

	"locklane/api"
	"locklane/history"
	"locklane/log"
	"locklane/plain"
)

// What a call is.
const (
	does = iota
	syncs
	fails
	crashes
)

// call on a Log: of an op, or with a number.
type call struct {
	what int
	o    api.Op
	n    int
}

// notes are what L1 and L2 tell of a Log, told without bytes.
type notes struct {
	record  int // bytes of one
	h       []api.Op
	half    int // bytes of a record that was cut off
	safe    int // how many ops are
	taken   int // steps since Fail
	stop    int // after how many of them it stops; below 0: never
	stopped bool
}

func newNotes(record int) *notes { return &notes{record: record, stop: -1} }

// step tells whether it stops.
func (k *notes) step() bool {
	k.taken++
	k.stopped = k.stop >= 0 && k.taken > k.stop
	return k.stopped
}

func (k *notes) do(o api.Op) api.Errno {
	if k.stopped {
		return api.ErrState
	}
	with := append(slices.Clone(k.h), o)
	if _, err := history.Check(with); err != nil {
		return plain.Told(err)
	}
	if k.step() {
		k.half = k.record / 2
		return api.ErrState
	}
	k.h = with
	return api.OK
}

func (k *notes) sync() api.Errno {
	if k.stopped || k.step() {
		return api.ErrState
	}
	k.safe = len(k.h)
	return api.OK
}

func (k *notes) crash(keep int) {
	for k.safe < len(k.h) && keep >= k.record {
		k.safe++
		keep -= k.record
	}
	*k = notes{record: k.record, h: slices.Clone(k.h[:k.safe]), safe: k.safe, stop: -1}
}

// byWords does a call and holds what it tells, and how it stands then, against the notes; and that what was safe is kept.
func byWords(t *testing.T, l *log.Log, k *notes, c call) api.Errno {
	t.Helper()
	var err error
	want := api.OK
	safe := k.h[:k.safe]
	switch c.what {
	case does:
		err, want = l.Do(c.o), k.do(c.o)
	case syncs:
		err, want = l.Sync(), k.sync()
	case fails:
		l.Fail(c.n)
		k.taken, k.stop = 0, c.n
	case crashes:
		l.Crash(c.n)
		k.crash(c.n)
	}
	if plain.Told(err) != want {
		t.Fatalf("%v: %v: got %v, want %v", *k, c, err, want)
	}
	holds(t, l, k.h, len(k.h)*k.record+k.half, k.safe*k.record)
	if all := l.All(); !slices.Equal(all[:len(safe)], safe) {
		t.Fatalf("%v: %v: %v is not kept", *k, c, safe)
	}
	return want
}

// TestSmall: L1 and L2: all short lists of calls.
func TestSmall(t *testing.T) {
	n := size()
	for _, k := range []struct {
		long  int
		calls []call
	}{
		{5, []call{
			{o: write(1, 1)}, {o: commit(1)}, {what: syncs},
			{what: fails}, {what: fails, n: 1}, {what: fails, n: 2}, {what: fails, n: -1},
			{what: crashes, n: -1}, {what: crashes}, {what: crashes, n: n}, {what: crashes, n: math.MaxInt},
		}},
		{7, []call{
			{o: write(1, 1)}, {o: read(2, 1)}, {what: syncs}, {what: fails, n: 1},
			{what: crashes, n: n - 1}, {what: crashes, n: n + n/2},
		}},
	} {
		var l []call
		var grow func()
		grow = func() {
			if len(l) == k.long {
				made, said := log.New(), newNotes(n)
				for _, c := range l {
					byWords(t, made, said, c)
				}
				return
			}
			for _, c := range k.calls {
				l = append(l, c)
				grow()
				l = l[:len(l)-1]
			}
		}
		grow()
	}
}

// mixer of numbers, by a rule.
func mixer() func(n int) int {
	mixed := uint64(1)
	return func(n int) int {
		mixed = mixed*6364136223846793005 + 1442695040888963407
		return int(mixed>>33) % n
	}
}

// rolled is a call of any kind, on as much as there may be.
func rolled(roll func(int) int, all []api.Op, record int) call {
	numbers := []int{-1, 0, math.MinInt, math.MaxInt}
	switch roll(24) {
	case 0:
		return call{what: fails, n: numbers[roll(len(numbers))]}
	case 1:
		return call{what: fails, n: roll(25)}
	case 2:
		return call{what: crashes, n: numbers[roll(len(numbers))]}
	case 3:
		return call{what: crashes, n: roll(12 * record)}
	case 4:
		return call{o: api.Op{Tx: roll(9) - 1, What: roll(6), Item: roll(9) - 1}}
	case 5, 6, 7:
		return call{what: syncs}
	}
	o := all[roll(len(all))]
	if o.Item == 0 && roll(4) > 0 {
		o = write(o.Tx, 1)
	}
	return call{o: o}
}

// TestGreat: L1 and L2: six deals, for long, by a rule that mixes numbers.
func TestGreat(t *testing.T) {
	roll, all, record := mixer(), allOps(), size()
	told := map[api.Errno]int{}
	for range 600 {
		l, k := log.New(), newNotes(record)
		for range 150 {
			told[byWords(t, l, k, rolled(roll, all, record))]++
		}
	}
	if told[api.ErrFull] == 0 || len(told) != 4 {
		t.Errorf("%v: not all that may be told", told)
	}
}
