package history

import (
	"strconv"
	"strings"

	"locklane/api"
)

const (
	whats   = "rwca"   // what ops do, from api.Read on
	letters = "abcdef" // items, from 1 on
)

// Print a history.
func Print(h []api.Op) (string, error) {
	if _, err := Check(h); err != nil {
		return "", err
	}
	var text strings.Builder
	for i, o := range h {
		if i > 0 {
			text.WriteByte(' ')
		}
		text.WriteString(printOp(o))
	}
	return text.String(), nil
}

// Parse a history.
func Parse(s string) ([]api.Op, error) {
	h, ok := readOps(s)
	if !ok {
		return nil, api.ErrSyntax
	}
	if _, err := Check(h); err != nil {
		return nil, err
	}
	return h, nil
}

func printOp(o api.Op) string {
	text := whats[o.What-1:o.What] + strconv.Itoa(o.Tx)
	if ends(o.What) {
		return text
	}
	return text + "(" + letters[o.Item-1:o.Item] + ")"
}

// readOps reads the ops of a text, and whether it is one. It goes on to the
// end, as a fault of the form is told ahead of all others, but one op too many
// is all that Check needs to see: a long text takes no more memory than that.
func readOps(s string) ([]api.Op, bool) {
	var h []api.Op
	for more := s != ""; more; {
		var word string
		word, s, more = strings.Cut(s, " ")
		o, ok := readOp(word)
		if !ok {
			return nil, false
		}
		if len(h) <= api.MaxOps {
			h = append(h, o)
		}
	}
	return h, true
}

func readOp(word string) (api.Op, bool) {
	if word == "" {
		return api.Op{}, false
	}
	what := strings.IndexByte(whats, word[0]) + 1
	if what == 0 {
		return api.Op{}, false
	}
	deal, item := word[1:], 0
	if !ends(what) {
		at := max(len(deal)-len("(a)"), 0)
		item = readItem(deal[at:])
		if item == 0 {
			return api.Op{}, false
		}
		deal = deal[:at]
	}
	tx, ok := readDeal(deal)
	return api.Op{Tx: tx, What: what, Item: item}, ok
}

// readItem reads a letter between brackets; 0, if it is none of an item.
func readItem(s string) int {
	if len(s) != len("(a)") || s[0] != '(' || s[2] != ')' {
		return 0
	}
	return strings.IndexByte(letters, s[1]) + 1
}

// readDeal reads the number of a deal. All that are too great are as wrong as
// the first of them, so the number stays there, and no text makes it wrap round.
func readDeal(s string) (int, bool) {
	if s == "" || len(s) > 1 && s[0] == '0' {
		return 0, false
	}
	n := 0
	for i := range len(s) {
		if s[i] < '0' || s[i] > '9' {
			return 0, false
		}
		n = min(10*n+int(s[i]-'0'), api.MaxTx+1)
	}
	return n, true
}
