package run

import (
	"strconv"
	"strings"

	"locklane/api"
	"locklane/history"
)

// none is told where there are no words.
const none = "-"

// word that is told, if it is so.
type word struct {
	text string
	isSo bool
}

// joined words, a blank between.
func joined(words []string) string {
	if len(words) == 0 {
		return none
	}
	return strings.Join(words, " ")
}

// those words that are so.
func those(words ...word) string {
	var so []string
	for _, w := range words {
		if w.isSo {
			so = append(so, w.text)
		}
	}
	return joined(so)
}

func faceWords(f api.Faces, err error) (string, error) {
	return those(
		word{"recoverable", f.Recoverable},
		word{"cautious", f.Cautious},
		word{"strict", f.Strict},
		word{"rigorous", f.Rigorous},
	), err
}

func illWords(i api.Ills, err error) (string, error) {
	return those(
		word{"dirtywrite", i.DirtyWrite},
		word{"dirtyread", i.DirtyRead},
		word{"unrepeated", i.Unrepeated},
		word{"lost", i.Lost},
	), err
}

func numbers(l []int, err error) (string, error) {
	var words []string
	for _, n := range l {
		words = append(words, strconv.Itoa(n))
	}
	return joined(words), err
}

// done deals of an outcome.
func done(out api.Outcome, err error) (string, error) {
	return numbers(out.Done, err)
}

// ops that a run told, whoever was aborted by it. There may be more than Print takes: then its error is told.
func ops(told []api.Op, _ []int, err error) (string, error) {
	if err != nil {
		return "", err
	}
	text, err := history.Print(told)
	if text == "" {
		text = none
	}
	return text, err
}
