package faces

import (
	"locklane/api"
)

// end of a deal: Commit or Abort, and the place of it; 0, if it does not end.
type end struct{ what, at int }

// ends: how each deal ends.
type ends [api.MaxTx + 1]end

// endsOf the deals of a right history, in which none ends twice.
func endsOf(h []api.Op) ends {
	var e ends
	for at, o := range h {
		if o.What == api.Commit || o.What == api.Abort {
			e[o.Tx] = end{o.What, at}
		}
	}
	return e
}

// committed tells whether a deal did so ahead of a place.
func (e ends) committed(tx, at int) bool {
	return e[tx].what == api.Commit && e[tx].at < at
}

// aborted tells whether a deal did so ahead of a place.
func (e ends) aborted(tx, at int) bool {
	return e[tx].what == api.Abort && e[tx].at < at
}

// ended tells whether a deal did so, one way or the other, ahead of a place.
func (e ends) ended(tx, at int) bool {
	return e.committed(tx, at) || e.aborted(tx, at)
}
