package decide

import (
	"motley/api"
	"motley/diagram"
)

// rest is the set of the rest of a valid session.
func (s *Session) rest() diagram.D { return s.products.And(setOf(s.choices...)) }

// Rest returns the set of the configurations whose features are those of a product that agrees with all choices.
func (s *Session) Rest() diagram.D {
	if !s.valid() {
		return diagram.False()
	}
	return s.rest()
}

// Count returns how many products agree with all choices.
func (s *Session) Count() uint64 {
	if !s.valid() {
		return 0
	}
	count, _ := s.rest().Count(len(s.model.Features))
	return count
}

// Complete returns the cheapest product that agrees with all choices, and its cost.
func (s *Session) Complete(attribute int) (uint32, int64, api.Errno) {
	switch {
	case !s.valid():
		return 0, 0, api.ErrNil
	case !has(attribute, len(s.model.Attributes)):
		return 0, 0, api.ErrRange
	}
	return s.rest().Cheapest(s.model.Attributes[attribute].Values)
}

// State returns the state of a feature.
func (s *Session) State(feature int) (State, api.Errno) {
	switch {
	case !s.valid():
		return Free, api.ErrNil
	case !has(feature, len(s.model.Features)):
		return Free, api.ErrRange
	}
	return s.States()[feature], api.OK
}

// States returns the states of all features, in order.
func (s *Session) States() []State {
	if !s.valid() {
		return nil
	}
	l := make([]State, len(s.model.Features))
	on, off := s.rest().Fixed()
	for i := range l {
		switch {
		case on>>i&1 == 1:
			l[i] = Forced
		case off>>i&1 == 1:
			l[i] = Barred
		}
	}
	for _, x := range s.choices {
		l[x.Feature] = Refused
		if x.On {
			l[x.Feature] = Chosen
		}
	}
	return l
}

// Offers returns the choices that Decide accepts.
func (s *Session) Offers() []api.Choice {
	var l []api.Choice
	for i, state := range s.States() {
		if state == Free || state == Barred {
			l = append(l, api.Choice{Feature: i})
		}
		if state == Free || state == Forced {
			l = append(l, api.Choice{Feature: i, On: true})
		}
	}
	return l
}

// Done reports whether no feature is free. That is so exactly if one product is left, for two differ in a free one.
func (s *Session) Done() bool { return s.Count() == 1 }
