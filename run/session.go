package run

import (
	"strings"

	"locklane/api"
	"locklane/danger"
	"locklane/faces"
	"locklane/history"
	"locklane/ills"
	"locklane/play"
	"locklane/serial"
	"locklane/snap"
	"locklane/stamp"
	"locklane/strict"
	"locklane/valid"
	"locklane/versions"
	"locklane/view"
)

// session is what is kept from line to line: the history of which lines are told.
type session struct{ h []api.Op }

// answer a line.
func (s *session) answer(line string) string {
	told, err := s.do(line)
	if err != nil {
		return fault{err}.name()
	}
	return told
}

// do what a line says. All behind the first blank of a line that brings a
// history is the history's text, so that it is Parse that judges blanks there.
func (s *session) do(line string) (string, error) {
	if text, is := strings.CutPrefix(line, "history "); is {
		return s.take(text)
	}
	switch line {
	case "order":
		return numbers(serial.Order(s.h))
	case "view":
		return numbers(view.Order(s.h))
	case "faces":
		return faceWords(faces.Of(s.h))
	case "ills":
		return illWords(ills.Of(s.h))
	case "values":
		return numbers(play.Values(s.h))
	case "detect":
		return ops(strict.Run(s.h, api.Detect))
	case "waitdie":
		return ops(strict.Run(s.h, api.WaitDie))
	case "woundwait":
		return ops(strict.Run(s.h, api.WoundWait))
	case "stamp":
		return ops(stamp.Run(s.h, false))
	case "valid":
		return done(valid.Run(s.h))
	case "snap":
		return done(snap.Run(s.h))
	case "danger":
		return done(danger.Run(s.h))
	case "versions":
		return done(versions.Run(s.h))
	}
	return "", errBad
}

// take a history; one that is refused leaves the one that was there.
func (s *session) take(text string) (string, error) {
	h, err := history.Parse(text)
	if err != nil {
		return "", err
	}
	s.h = h
	return "ok", nil
}
