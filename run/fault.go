package run

import (
	"errors"

	"locklane/api"
)

// errBad is told of a line that has not its words.
var errBad = errors.New("bad")

// fault is an error of a line: the one that is embedded is what its chapter told, or errBad.
type fault struct{ error }

// Unwrap gives the error that is embedded.
func (f fault) Unwrap() error { return f.error }

// name by which a fault is answered: what a chapter told may be wrapped, but only its number has a name.
func (f fault) name() string {
	var e api.Errno
	if errors.As(f, &e) {
		return e.Error()
	}
	return f.Error()
}
