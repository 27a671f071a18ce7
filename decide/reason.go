package decide

import (
	"motley/api"
	"motley/model"
)

// Why returns the reason why no product of the rest has a feature otherwise.
func (s *Session) Why(feature int) (Reason, api.Errno) {
	state, e := s.State(feature)
	switch {
	case e != api.OK:
		return Reason{}, e
	case state != Forced && state != Barred:
		return Reason{}, api.ErrNone
	}
	return s.reason(api.Choice{Feature: feature, On: state == Barred}), api.OK
}

// Conflict returns the reason why no product of the rest agrees with a choice.
func (s *Session) Conflict(feature int, on bool) (Reason, api.Errno) {
	if !s.valid() {
		return Reason{}, api.ErrNil
	}
	x := api.Choice{Feature: feature, On: on}
	switch e := s.refusal(x); e {
	case api.OK:
		return Reason{}, api.ErrNone
	case api.ErrConflict:
		return s.reason(x), api.OK
	default:
		return Reason{}, e
	}
}

// reason is that of why no product of the rest agrees with x.
func (s *Session) reason(x api.Choice) Reason {
	var r Reason
	left := []api.Choice{x} // and the choices that stay in the reason
	enough := func(behind []api.Choice) bool {
		return !s.products.Meets(setOf(left...).And(setOf(behind...)))
	}
	for k, c := range s.choices {
		if !enough(s.choices[k+1:]) {
			left = append(left, c)
			r.Choices = append(r.Choices, k)
		}
	}
	// The rules that remain once the choices are settled are those of the explanation that the model gives.
	r.Rules, _ = model.Why(s.model, setOf(left...))
	return r
}
