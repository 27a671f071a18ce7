package decide_test

import (
	"math"
	"slices"
	"strings"
	"testing"

	"motley/api"
	"motley/decide"
	"motley/model"
)

// wantChoices fails if a session has other choices.
func wantChoices(t *testing.T, what string, s *decide.Session, want ...api.Choice) {
	t.Helper()
	if got := s.Choices(); !slices.Equal(got, want) {
		t.Errorf("%s: choices %v, want %v", what, got, want)
	}
}

// noFeatures are numbers that no feature of a model with n features has.
func noFeatures(n int) []int { return []int{-1, n, n + 1, 24, 32, 64, math.MinInt, math.MaxInt} }

// P4.1

func TestNew(t *testing.T) {
	for _, text := range []string{phone, "root a", wide()} {
		s := started(t, text)
		if len(s.Choices()) != 0 || s.Text() != "" {
			t.Errorf("New: %v for %q", s.Choices(), text)
		}
	}
}

func TestNewErrors(t *testing.T) {
	void := parsed(t, "root a\nrequire !a")
	bad := parsed(t, "root a\noptional a b\nrequire 0")
	bad.Features[1].Name = "a b"
	for what, x := range map[string]struct {
		m    api.Model
		want api.Errno
	}{
		"a void model":                   {void, api.ErrConflict},
		"no features":                    {api.Model{}, api.ErrArg},
		"too many features":              {api.Model{Features: make([]api.Feature, 25)}, api.ErrLimit},
		"a bad name before a void model": {bad, api.ErrName},
	} {
		if s, e := decide.New(x.m); s != nil || e != x.want {
			t.Errorf("New of %s: %v, %v", what, s, e)
		}
		if s, line, e := decide.Load(x.m, "nothing"); s != nil || line != 0 || e != x.want {
			t.Errorf("Load for %s: %v, line %d, %v", what, s, line, e)
		}
	}
}

// spoil changes all that a model refers to.
func spoil(m api.Model) {
	for i := range m.Features {
		m.Features[i] = api.Feature{Name: "x"}
	}
	for k := range m.Groups {
		clear(m.Groups[k].Members)
		m.Groups[k] = api.Group{}
	}
	for k := range m.Attributes {
		clear(m.Attributes[k].Values)
		m.Attributes[k] = api.Attribute{}
	}
	for k := range m.Requires {
		spoilKids(m.Requires[k])
		m.Requires[k] = api.Expr{}
	}
	clear(m.Limits)
}

func spoilKids(e api.Expr) {
	for k := range e.Kids {
		spoilKids(e.Kids[k])
		e.Kids[k] = api.Expr{}
	}
}

func TestModelIsKept(t *testing.T) {
	const text = phone + "require !(Gps & Basic) | (Gps & Basic)\n"
	m := parsed(t, text)
	s, _ := decide.New(m)
	spoil(m)
	s.Decide(2, true)
	r, e := s.Why(3)
	if e != api.OK || !sameReason(r, decide.Reason{Choices: []int{0}, Rules: []int{5, 7, 8}}) || s.Text() != "+ Gps\n" {
		t.Errorf("after a change of the argument: %v, %v, %q", r, e, s.Text())
	}
	if c, cost, e := s.Complete(0); c != 23 || cost != 27 || e != api.OK {
		t.Errorf("Complete: %d, %d, %v", c, cost, e)
	}
	if l, e := s.Join(started(t, text)); len(l) != 0 || e != api.OK {
		t.Errorf("Join with the same model: %v, %v", l, e)
	}
}

func TestArgumentsAreNotChanged(t *testing.T) {
	m := parsed(t, phone)
	l := []api.Choice{on(2), on(3), off(4)}
	s, _ := decide.New(m)
	s.Decide(2, true)
	s.Conflict(3, true)
	decide.Propagate(m, l)
	decide.Diagnose(m, l)
	decide.Repair(m, 4)
	if !model.Same(m, parsed(t, phone)) || !slices.Equal(l, []api.Choice{on(2), on(3), off(4)}) {
		t.Errorf("changed: %v, %v", m, l)
	}
}

func TestCopy(t *testing.T) {
	s := loaded(t, "- Gps\n")
	o := s.Copy()
	wantChoices(t, "a copy", o, off(2))
	if _, e := s.Join(o); e != api.OK {
		t.Errorf("a copy has another model: %v", e)
	}
	s.Decide(3, true)
	o.Decide(4, true)
	wantChoices(t, "the session after Decide", s, off(2), on(3))
	wantChoices(t, "the copy after Decide", o, off(2), on(4))
	s.Undo()
	s.Undo()
	s.Decide(2, true)
	wantChoices(t, "the session after Undo", s, on(2))
	wantChoices(t, "the copy after Undo", o, off(2), on(4))
}

// Wherever a session keeps its choices: what is added to, or removed from, a copy is not so in the session.
func TestCopyOfAnyLength(t *testing.T) {
	for count := range 6 {
		s := started(t, wide())
		for i := range count {
			s.Decide(i, true)
		}
		before := s.Choices()
		o := s.Copy()
		o.Decide(22, true)
		s.Decide(23, true)
		wantChoices(t, "the copy after Decide", o, append(slices.Clone(before), on(22))...)
		wantChoices(t, "the session after Decide", s, append(slices.Clone(before), on(23))...)
		o.Retract(0)
		wantChoices(t, "the session after Retract", s, append(slices.Clone(before), on(23))...)
	}
}

func TestInvalidSessions(t *testing.T) {
	good := loaded(t, "+ Gps\n")
	value := *good
	for what, s := range map[string]*decide.Session{"nil": nil, "new": {}, "a copy of the value": &value} {
		undone, undo := s.Undo()
		state, stateError := s.State(-1)
		c, cost, complete := s.Complete(-1)
		why, whyError := s.Why(-1)
		conflict, conflictError := s.Conflict(-1, true)
		left, join := s.Join(good)
		more, joinOfIt := good.Join(s)
		errors := map[string]api.Errno{
			"Decide": s.Decide(2, true), "Decide of no feature": s.Decide(-1, true),
			"Retract": s.Retract(2), "Retract of no feature": s.Retract(-1),
			"Undo": undo, "State": stateError, "Complete": complete, "Why": whyError,
			"Conflict": conflictError, "Join": join, "Join of it": joinOfIt,
		}
		for method, e := range errors {
			if e != api.ErrNil {
				t.Errorf("%s of %s: %v", method, what, e)
			}
		}
		if undone != (api.Choice{}) || state != decide.Free || c != 0 || cost != 0 || len(left)+len(more) != 0 ||
			!sameReason(why, decide.Reason{}) || !sameReason(conflict, decide.Reason{}) {
			t.Errorf("%s: an error with a value", what)
		}
		if len(s.Choices())+len(s.States())+len(s.Offers()) != 0 || !s.Rest().Empty() || s.Count() != 0 ||
			s.Done() || s.Text() != "" || s.Copy() != nil {
			t.Errorf("%s: a value that is not zero", what)
		}
	}
	wantChoices(t, "the valid session", good, on(2))
}

// P4.2

func TestDecide(t *testing.T) {
	s := started(t, phone)
	for _, x := range []struct {
		feature int
		on      bool
		want    api.Errno
	}{
		{0, false, api.ErrConflict},
		{1, true, api.OK},
		{1, true, api.ErrTwice},
		{1, false, api.ErrTwice},
		{5, true, api.ErrRange},
		{2, true, api.OK},
		{3, true, api.ErrConflict},
		{4, false, api.ErrConflict},
		{4, true, api.OK},
		{3, false, api.OK},
		{2, false, api.ErrTwice},
		{0, true, api.OK},
		{0, false, api.ErrTwice},
	} {
		before := s.Choices()
		if e := s.Decide(x.feature, x.on); e != x.want {
			t.Errorf("Decide(%d, %t): %v, want %v", x.feature, x.on, e, x.want)
		}
		if x.want == api.OK {
			before = append(before, api.Choice{Feature: x.feature, On: x.on})
		}
		wantChoices(t, "after Decide", s, before...)
	}
}

func TestNoSuchFeature(t *testing.T) {
	for _, text := range []string{phone, "root a", wide()} {
		s := started(t, text)
		for _, i := range noFeatures(len(parsed(t, text).Features)) {
			_, state := s.State(i)
			_, why := s.Why(i)
			_, conflict := s.Conflict(i, true)
			for what, e := range map[string]api.Errno{
				"Decide": s.Decide(i, true), "Retract": s.Retract(i), "State": state, "Why": why, "Conflict": conflict,
			} {
				if e != api.ErrRange {
					t.Errorf("%s(%d): %v", what, i, e)
				}
			}
		}
		wantChoices(t, "no such feature", s)
	}
}

func TestUndo(t *testing.T) {
	s := loaded(t, "- Gps\n+ Screen\n")
	for _, want := range []api.Choice{on(1), off(2)} {
		if x, e := s.Undo(); x != want || e != api.OK {
			t.Errorf("Undo: %v, %v, want %v", x, e, want)
		}
	}
	if x, e := s.Undo(); x != (api.Choice{}) || e != api.ErrNone {
		t.Errorf("Undo without choices: %v, %v", x, e)
	}
	if e := s.Decide(2, true); e != api.OK {
		t.Errorf("Decide after Undo: %v", e)
	}
	wantChoices(t, "after Undo and Decide", s, on(2))
}

func TestRetract(t *testing.T) {
	s := loaded(t, "+ Phone\n+ Gps\n+ Colour\n+ Screen\n")
	kept := s.Choices()
	for _, x := range []struct {
		feature int
		want    api.Errno
		left    []api.Choice
	}{
		{3, api.ErrNone, []api.Choice{on(0), on(2), on(4), on(1)}},
		{2, api.OK, []api.Choice{on(0), on(4), on(1)}},
		{2, api.ErrNone, []api.Choice{on(0), on(4), on(1)}},
		{0, api.OK, []api.Choice{on(4), on(1)}},
		{1, api.OK, []api.Choice{on(4)}},
		{4, api.OK, nil},
		{4, api.ErrNone, nil},
	} {
		if e := s.Retract(x.feature); e != x.want {
			t.Errorf("Retract(%d): %v, want %v", x.feature, e, x.want)
		}
		wantChoices(t, "after Retract", s, x.left...)
	}
	if !slices.Equal(kept, []api.Choice{on(0), on(2), on(4), on(1)}) {
		t.Errorf("Retract changes what Choices returned: %v", kept)
	}
}

func TestChoicesAreNewMemory(t *testing.T) {
	s := loaded(t, "+ Gps\n+ Colour\n")
	l := s.Choices()
	l[0] = off(3)
	_ = append(l[:1], off(0))
	wantChoices(t, "after a change of the result", s, on(2), on(4))
}

func TestAllFeaturesDecided(t *testing.T) {
	s := started(t, wide())
	var want []api.Choice
	for i := 23; i >= 0; i-- {
		want = append(want, api.Choice{Feature: i, On: i%3 == 0})
		if e := s.Decide(i, i%3 == 0); e != api.OK {
			t.Errorf("Decide(%d): %v", i, e)
		}
		if count := uint64(1) << max(i-1, 0); s.Count() != count || s.Done() != (count == 1) {
			t.Errorf("after Decide(%d): %d, %t", i, s.Count(), s.Done())
		}
	}
	wantChoices(t, "all features", s, want...)
	if strings.Count(s.Text(), "\n") != 24 || len(s.Offers()) != 0 || !s.Rest().Has(0xff249249) {
		t.Errorf("all features: %q, %v", s.Text(), s.Offers())
	}
}

// P4.3

func TestJoin(t *testing.T) {
	for _, x := range []struct {
		s, o       string
		left, want []api.Choice
	}{
		{"", "", nil, nil},
		{"", "- Basic\n+ Gps\n", nil, []api.Choice{off(3), on(2)}},
		{"+ Gps\n", "", nil, []api.Choice{on(2)}},
		{"+ Gps\n", "+ Phone\n+ Gps\n+ Screen\n", nil, []api.Choice{on(2), on(0), on(1)}},
		{"+ Gps\n", "- Gps\n+ Basic\n- Colour\n+ Screen\n", []api.Choice{off(2), on(3), off(4)}, []api.Choice{on(2), on(1)}},
		{"+ Colour\n", "- Colour\n- Gps\n", []api.Choice{off(4)}, []api.Choice{on(4), off(2)}},
	} {
		s, o := loaded(t, x.s), loaded(t, x.o)
		left, e := s.Join(o)
		if !slices.Equal(left, x.left) || e != api.OK {
			t.Errorf("Join of %q and %q: %v, %v", x.s, x.o, left, e)
		}
		wantChoices(t, "after Join", s, x.want...)
		if o.Text() != x.o {
			t.Errorf("Join of %q changes %q: %q", x.s, x.o, o.Text())
		}
	}
}

func TestJoinWithItself(t *testing.T) {
	s := loaded(t, "+ Gps\n+ Phone\n")
	if left, e := s.Join(s); len(left) != 0 || e != api.OK {
		t.Errorf("Join with itself: %v, %v", left, e)
	}
	wantChoices(t, "joined with itself", s, on(2), on(0))
}

func TestJoinOfAnotherModel(t *testing.T) {
	s := loaded(t, "+ Phone\n")
	for _, text := range []string{"root Phone", strings.Replace(phone, "30", "31", 1), phone + "require Gps => Colour\n"} {
		o := started(t, text)
		o.Decide(0, true)
		if left, e := s.Join(o); len(left) != 0 || e != api.ErrArg {
			t.Errorf("Join for %q: %v, %v", text, left, e)
		}
	}
	wantChoices(t, "not joined", s, on(0))
}

// P4.3, as the chapter says it, for many sessions.
func TestJoinStepByStep(t *testing.T) {
	d := dice(99)
	for s, x := range sessions(t, 150) {
		o, _ := decide.New(x.Model)
		for _, c := range d.choices(x.n, d.roll(2*x.n)) {
			o.Decide(c.Feature, c.On)
		}
		want := s.Choices()
		var left []api.Choice
		for _, c := range o.Choices() {
			opposite := api.Choice{Feature: c.Feature, On: !c.On}
			switch {
			case slices.Contains(want, c):
			case slices.Contains(want, opposite) || len(x.rest(append(slices.Clone(want), c)...)) == 0:
				left = append(left, c)
			default:
				want = append(want, c)
			}
		}
		got, e := s.Join(o)
		if !slices.Equal(got, left) || e != api.OK {
			t.Errorf("Join: %v, %v, want %v in %s", got, e, left, shaped(s, x))
		}
		wantChoices(t, "Join", s, want...)
	}
}

// P4.2, P4.11: what is accepted is what leaves products, and no sequence of calls leaves none.

func TestNeverADeadEnd(t *testing.T) {
	for s, x := range sessions(t, 150) {
		if len(x.rest(s.Choices()...)) == 0 || s.Count() == 0 || s.Rest().Empty() {
			t.Errorf("no products: %s", shaped(s, x))
		}
		states, offers := s.States(), s.Offers()
		for i := range x.n {
			for _, c := range []api.Choice{off(i), on(i)} {
				after := s.Copy()
				e := after.Decide(c.Feature, c.On)
				want := api.OK
				switch {
				case states[i] == decide.Chosen || states[i] == decide.Refused:
					want = api.ErrTwice
				case len(x.rest(append(s.Choices(), c)...)) == 0:
					want = api.ErrConflict
				}
				if e != want || slices.Contains(offers, c) != (want == api.OK) || after.Count() == 0 {
					t.Errorf("Decide(%v): %v, want %v in %s", c, e, want, shaped(s, x))
				}
			}
		}
	}
}

// P4.15

func TestUndoAfterDecide(t *testing.T) {
	for s, x := range sessions(t, 100) {
		choices, states, rest := s.Choices(), s.States(), s.Rest()
		for _, c := range s.Offers() {
			s.Decide(c.Feature, c.On)
			if back, e := s.Undo(); back != c || e != api.OK {
				t.Errorf("Undo: %v, %v, want %v in %s", back, e, c, shaped(s, x))
			}
			if !slices.Equal(s.Choices(), choices) || !slices.Equal(s.States(), states) || !s.Rest().Same(rest) {
				t.Errorf("Undo of %v does not lead back in %s", c, shaped(s, x))
			}
		}
	}
}
