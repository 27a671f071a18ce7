package decide_test

import (
	"testing"

	"motley/api"
	"motley/decide"
)

func wantReason(t *testing.T, what string, got decide.Reason, e api.Errno, want decide.Reason) {
	t.Helper()
	if !sameReason(got, want) || e != api.OK {
		t.Errorf("%s: %v, %v, want %v", what, got, e, want)
	}
}

func wantNoReason(t *testing.T, what string, got decide.Reason, e, want api.Errno) {
	t.Helper()
	if !sameReason(got, decide.Reason{}) || e != want {
		t.Errorf("%s: %v, %v, want %v", what, got, e, want)
	}
}

// P4.6

func TestReasonsOfPhone(t *testing.T) {
	s := loaded(t, "+ Phone\n- Basic\n+ Gps\n")
	r, e := s.Why(4) // that Basic is left out comes first, but the choice of Gps would do
	wantReason(t, "Why of Colour", r, e, decide.Reason{Choices: []int{2}, Rules: []int{8}})
	r, e = s.Conflict(4, false)
	wantReason(t, "Conflict of Colour", r, e, decide.Reason{Choices: []int{2}, Rules: []int{8}})
	r, e = s.Why(1)
	wantReason(t, "Why of Screen", r, e, decide.Reason{Rules: []int{0, 2}}) // the rules alone would do
	r, e = s.Conflict(4, true)
	wantNoReason(t, "Conflict of what Decide accepts", r, e, api.ErrNone)
	for i := range 4 {
		if i != 1 {
			for _, isOn := range []bool{false, true} {
				r, e = s.Conflict(i, isOn)
				wantNoReason(t, "Conflict of a choice", r, e, api.ErrTwice)
			}
			r, e = s.Why(i)
			wantNoReason(t, "Why of a choice", r, e, api.ErrNone)
		}
	}
	for _, i := range noFeatures(5) {
		r, e = s.Why(i)
		wantNoReason(t, "Why of no feature", r, e, api.ErrRange)
		r, e = s.Conflict(i, false)
		wantNoReason(t, "Conflict of no feature", r, e, api.ErrRange)
	}
}

func TestReasonsWithoutChoices(t *testing.T) {
	s := started(t, phone)
	r, e := s.Why(0)
	wantReason(t, "Why of the root", r, e, decide.Reason{Rules: []int{0}})
	r, e = s.Why(1)
	wantReason(t, "Why of Screen", r, e, decide.Reason{Rules: []int{0, 2}})
	r, e = s.Conflict(1, false)
	wantReason(t, "Conflict of Screen", r, e, decide.Reason{Rules: []int{0, 2}})
	for i := 2; i < 5; i++ {
		r, e = s.Why(i)
		wantNoReason(t, "Why of a free feature", r, e, api.ErrNone)
	}
}

// Of choices each of which is enough, the last one stays; and choices are left out before rules are.
func TestWhichReason(t *testing.T) {
	const text = "root a\noptional a b\noptional a c\noptional a d\nrequire b => d\nrequire c => d\nrequire b & c => d"
	for choices, want := range map[string]decide.Reason{
		"+ b\n+ c\n":      {Choices: []int{1}, Rules: []int{5}},
		"+ c\n+ b\n":      {Choices: []int{1}, Rules: []int{4}},
		"+ c\n+ a\n+ b\n": {Choices: []int{2}, Rules: []int{4}},
		"+ c\n+ a\n":      {Choices: []int{0}, Rules: []int{5}},
	} {
		s, _, e := decide.Load(parsed(t, text), choices)
		if e != api.OK {
			t.Fatalf("Load(%q): %v", choices, e)
		}
		r, e := s.Why(3)
		wantReason(t, "Why after "+choices, r, e, want)
	}
	s := started(t, "root a\noptional a b\nrequire b\nrequire a & b")
	s.Decide(0, true)
	r, e := s.Why(1)
	wantReason(t, "Why of what the rules alone force", r, e, decide.Reason{Rules: []int{3}})
}

// P4.6, P4.14

func TestReasonsOneByOne(t *testing.T) {
	for s, x := range sessions(t, 250) {
		l := s.Choices()
		states := s.States()
		for i := range x.n {
			r, e := s.Why(i)
			switch where := "Why in " + shaped(s, x); states[i] {
			case decide.Forced:
				wantReason(t, where, r, e, x.reason(l, off(i)))
				wantMinimal(t, where, x, l, off(i), r)
			case decide.Barred:
				wantReason(t, where, r, e, x.reason(l, on(i)))
				wantMinimal(t, where, x, l, on(i), r)
			default:
				wantNoReason(t, where, r, e, api.ErrNone)
			}
			for _, c := range []api.Choice{off(i), on(i)} {
				r, e := s.Conflict(c.Feature, c.On)
				where := "Conflict in " + shaped(s, x)
				switch s.Copy().Decide(c.Feature, c.On) {
				case api.OK:
					wantNoReason(t, where, r, e, api.ErrNone)
				case api.ErrTwice:
					wantNoReason(t, where, r, e, api.ErrTwice)
				default:
					wantReason(t, where, r, e, x.reason(l, c))
				}
			}
		}
	}
}

// wantMinimal fails if a reason does not exclude what it explains, or does so without one of its parts.
func wantMinimal(t *testing.T, what string, x truth, l []api.Choice, kind api.Choice, r decide.Reason) {
	t.Helper()
	excluded := func(choices, rules []int) bool { return x.excluded(append(pick(l, choices), kind), rules) }
	if !excluded(r.Choices, r.Rules) {
		t.Errorf("%s: %v excludes nothing", what, r)
	}
	for _, k := range r.Choices {
		if excluded(without(r.Choices, k), r.Rules) {
			t.Errorf("%s: %v needs no choice %d", what, r, k)
		}
	}
	for _, k := range r.Rules {
		if excluded(r.Choices, without(r.Rules, k)) {
			t.Errorf("%s: %v needs no rule %d", what, r, k)
		}
	}
}
