package decide

import (
	"slices"

	"motley/api"
	"motley/model"
)

// New returns a session without choices.
func New(m api.Model) (*Session, api.Errno) {
	f, e := familyOf(m)
	if e != api.OK {
		return nil, e
	}
	return newSession(f, nil), api.OK
}

// Copy returns a session with the same model and choices; neither changes the other one.
func (s *Session) Copy() *Session {
	if !s.valid() {
		return nil
	}
	return newSession(s.family, slices.Clone(s.choices))
}

func newSession(f family, choices []api.Choice) *Session {
	s := &Session{family: f, choices: choices}
	s.self = s
	return s
}

// valid reports whether the package made this session.
func (s *Session) valid() bool { return s != nil && s.self == s }

// Decide adds a choice, as the last one.
func (s *Session) Decide(feature int, on bool) api.Errno {
	if !s.valid() {
		return api.ErrNil
	}
	x := api.Choice{Feature: feature, On: on}
	if e := s.refusal(x); e != api.OK {
		return e
	}
	s.choices = append(s.choices, x)
	return api.OK
}

// refusal is the error with which a choice cannot be made; OK if it can.
func (s *Session) refusal(x api.Choice) api.Errno {
	switch {
	case !has(x.Feature, len(s.model.Features)):
		return api.ErrRange
	case s.find(x.Feature) >= 0:
		return api.ErrTwice
	case !s.rest().Meets(setOf(x)):
		return api.ErrConflict
	}
	return api.OK
}

// find is the index of the choice of a feature; -1 if it has none.
func (s *Session) find(feature int) int {
	return slices.IndexFunc(s.choices, func(x api.Choice) bool { return x.Feature == feature })
}

// Undo removes the last choice, and returns it.
func (s *Session) Undo() (api.Choice, api.Errno) {
	if !s.valid() {
		return api.Choice{}, api.ErrNil
	}
	last := len(s.choices) - 1
	if last < 0 {
		return api.Choice{}, api.ErrNone
	}
	x := s.choices[last]
	s.choices = s.choices[:last]
	return x, api.OK
}

// Retract removes the choice of a feature.
func (s *Session) Retract(feature int) api.Errno {
	switch {
	case !s.valid():
		return api.ErrNil
	case !has(feature, len(s.model.Features)):
		return api.ErrRange
	}
	k := s.find(feature)
	if k < 0 {
		return api.ErrNone
	}
	s.choices = slices.Delete(s.choices, k, k+1)
	return api.OK
}

// Join adds the choices of o, and returns those of them that this session cannot take.
func (s *Session) Join(o *Session) ([]api.Choice, api.Errno) {
	switch {
	case !s.valid() || !o.valid():
		return nil, api.ErrNil
	case !model.Same(s.model, o.model):
		return nil, api.ErrArg
	}
	var left []api.Choice
	for _, x := range o.choices {
		if !slices.Contains(s.choices, x) && s.Decide(x.Feature, x.On) != api.OK {
			left = append(left, x)
		}
	}
	return left, api.OK
}

// Choices returns the choices, in order.
func (s *Session) Choices() []api.Choice {
	if !s.valid() {
		return nil
	}
	return slices.Clone(s.choices)
}
