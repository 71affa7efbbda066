package log

import (
	"locklane/api"
)

// size of a record: a byte for each of an op's numbers. All have the same one,
// so that where they end is known though the last one is cut off.
const size = 3

// record of an op that may be: its numbers are small enough for bytes.
func record(o api.Op) []byte {
	return []byte{byte(o.Tx), byte(o.What), byte(o.Item)}
}

// opOf a record, with which these bytes begin.
func opOf(b []byte) api.Op {
	return api.Op{Tx: int(b[0]), What: int(b[1]), Item: int(b[2])}
}
