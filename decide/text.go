package decide

import (
	"slices"
	"strings"

	"motley/api"
	"motley/model"
)

// The signs with which the lines of a text begin.
const (
	onSign  = '+'
	offSign = '-'
)

// Text returns the choices, a line each.
func (s *Session) Text() string {
	if !s.valid() {
		return ""
	}
	var text strings.Builder
	for _, x := range s.choices {
		sign := byte(offSign)
		if x.On {
			sign = onSign
		}
		text.WriteByte(sign)
		text.WriteString(" " + s.model.Features[x.Feature].Name + "\n")
	}
	return text.String()
}

// Load returns a session with the choices of a text; or an error, and the number of the line at which it is.
func Load(m api.Model, text string) (s *Session, line int, e api.Errno) {
	s, e = New(m)
	if e != api.OK {
		return nil, 0, e
	}
	for choice := range strings.Lines(text) {
		line++
		if e := s.read(strings.TrimSuffix(choice, "\n")); e != api.OK {
			return nil, line, e
		}
	}
	return s, 0, api.OK
}

// read makes the choice of a line.
func (s *Session) read(line string) api.Errno {
	const nameAt = len("+ ")
	if len(line) <= nameAt || line[0] != onSign && line[0] != offSign || line[1] != ' ' {
		return api.ErrForm
	}
	feature := slices.Index(model.Names(s.model), line[nameAt:])
	if feature < 0 {
		return api.ErrName
	}
	return s.Decide(feature, line[0] == onSign)
}
