package run

import (
	"errors"
	"testing"

	"locklane/api"
	"locklane/plain"
)

// behind is an error that wraps another one, and tells something else itself.
type behind struct{ err error }

func (b behind) Error() string { return "behind" }
func (b behind) Unwrap() error { return b.err }

// TestName: Z1 and P3 of DOC.md: an error's name is that of its number, however deep that is wrapped.
func TestName(t *testing.T) {
	for e, name := range map[api.Errno]string{
		api.ErrRange: "ErrRange", api.ErrSyntax: "ErrSyntax", api.ErrShape: "ErrShape", api.ErrFull: "ErrFull",
		api.ErrNone: "ErrNone", api.ErrState: "ErrState", api.ErrClash: "ErrClash", api.ErrCycle: "ErrCycle",
	} {
		for _, err := range []error{e, behind{e}, behind{behind{e}}, fault{e}, errors.Join(behind{e})} {
			f := fault{err}
			if f.name() != name || plain.Told(f) != e || !errors.Is(f, e) || f.Error() != err.Error() {
				t.Errorf("%v: got %q", err, f.name())
			}
		}
	}
	if name := (fault{errBad}).name(); name != "bad" {
		t.Errorf("got %q", name)
	}
}

// TestLines: Z1: lines may be gone over again, and as far as one likes.
func TestLines(t *testing.T) {
	all := lines("a\n\nb")
	for range 2 {
		n := 0
		for range all {
			n++
		}
		if n != 3 {
			t.Errorf("%d lines", n)
		}
		for line := range all {
			if line != "a" {
				t.Errorf("got %q first", line)
			}
			break
		}
	}
}
