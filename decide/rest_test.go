package decide_test

import (
	"math"
	"slices"
	"testing"

	"motley/api"
	"motley/decide"
)

// P4.4

func TestStates(t *testing.T) {
	type states = []decide.State
	const free, chosen, refused, forced, barred = decide.Free, decide.Chosen, decide.Refused, decide.Forced, decide.Barred
	for _, x := range []struct {
		text   string
		want   states
		offers []api.Choice
	}{
		{"", states{forced, forced, free, free, free},
			[]api.Choice{on(0), on(1), off(2), on(2), off(3), on(3), off(4), on(4)}},
		{"+ Gps\n", states{forced, forced, chosen, barred, forced}, []api.Choice{on(0), on(1), off(3), on(4)}},
		{"- Gps\n+ Phone\n", states{chosen, forced, refused, free, free}, []api.Choice{on(1), off(3), on(3), off(4), on(4)}},
		{"- Colour\n", states{forced, forced, barred, forced, refused}, []api.Choice{on(0), on(1), off(2), on(3)}},
	} {
		s := loaded(t, x.text)
		if got := s.States(); !slices.Equal(got, x.want) {
			t.Errorf("States of %q: %v, want %v", x.text, got, x.want)
		}
		if got := s.Offers(); !slices.Equal(got, x.offers) {
			t.Errorf("Offers of %q: %v, want %v", x.text, got, x.offers)
		}
		if s.Done() == slices.Contains(x.want, free) {
			t.Errorf("Done of %q: %t", x.text, s.Done())
		}
	}
	for _, i := range noFeatures(5) {
		if state, e := loaded(t, "+ Gps\n").State(i); state != free || e != api.ErrRange {
			t.Errorf("State(%d): %v, %v", i, state, e)
		}
	}
}

// The numbers are those of the chapter's list.
func TestStateNumbers(t *testing.T) {
	for want, state := range []decide.State{decide.Free, decide.Chosen, decide.Refused, decide.Forced, decide.Barred} {
		if int(state) != want {
			t.Errorf("the state %d has the number %d", want, state)
		}
	}
}

// P4.4, P4.12
func TestStatesOneByOne(t *testing.T) {
	for s, x := range sessions(t, 250) {
		want := x.states(s.Choices())
		if got := s.States(); !slices.Equal(got, want) {
			t.Errorf("States: %v, want %v in %s", got, want, shaped(s, x))
		}
		var offers []api.Choice
		for i, w := range want {
			if got, e := s.State(i); got != w || e != api.OK {
				t.Errorf("State(%d): %v, %v, want %v in %s", i, got, e, w, shaped(s, x))
			}
			if w == decide.Free || w == decide.Barred {
				offers = append(offers, off(i))
			}
			if w == decide.Free || w == decide.Forced {
				offers = append(offers, on(i))
			}
		}
		if got := s.Offers(); !slices.Equal(got, offers) {
			t.Errorf("Offers: %v, want %v in %s", got, offers, shaped(s, x))
		}
		if s.Done() == slices.Contains(want, decide.Free) {
			t.Errorf("Done: %t in %s", s.Done(), shaped(s, x))
		}
	}
}

// P4.5

func TestRestAndCount(t *testing.T) {
	for s, x := range sessions(t, 250) {
		want := x.rest(s.Choices()...)
		rest := s.Rest()
		if got := slices.Collect(rest.All(x.n)); !slices.Equal(got, want) || s.Count() != uint64(len(want)) {
			t.Errorf("the rest: %v, %d, want %v in %s", got, s.Count(), want, shaped(s, x))
		}
		if rest.Support()>>x.n != 0 {
			t.Errorf("the rest depends on %x in %s", rest.Support(), shaped(s, x))
		}
	}
}

func TestComplete(t *testing.T) {
	for s, x := range sessions(t, 250) {
		for k, a := range x.Attributes {
			cost := func(c uint32) int64 {
				sum := int64(0)
				for i, v := range a.Values {
					sum += v * int64(c>>i&1)
				}
				return sum
			}
			want := slices.MinFunc(x.rest(s.Choices()...), func(c, d uint32) int {
				switch { // of products that cost the same, the first one is taken
				case cost(c) < cost(d):
					return -1
				case cost(c) > cost(d):
					return 1
				}
				return 0
			})
			if c, sum, e := s.Complete(k); c != want || sum != cost(want) || e != api.OK {
				t.Errorf("Complete(%d): %d, %d, %v, want %d in %s", k, c, sum, e, want, shaped(s, x))
			}
		}
		for _, k := range []int{-1, len(x.Attributes), 8, math.MinInt, math.MaxInt} {
			if c, sum, e := s.Complete(k); c != 0 || sum != 0 || e != api.ErrRange {
				t.Errorf("Complete(%d): %d, %d, %v in %s", k, c, sum, e, shaped(s, x))
			}
		}
	}
}

func TestCompletePhone(t *testing.T) {
	for text, want := range map[string]struct {
		c    uint32
		cost int64
	}{"": {11, 0}, "+ Colour\n": {19, 20}, "+ Gps\n": {23, 27}, "- Basic\n": {19, 20}} {
		if c, cost, e := loaded(t, text).Complete(0); c != want.c || cost != want.cost || e != api.OK {
			t.Errorf("Complete of %q: %d, %d, %v", text, c, cost, e)
		}
	}
	s := started(t, "root a\nattribute p\noptional a b\noptional a c\nvalue p b 5\nvalue p c 5\nrequire b | c")
	if c, cost, e := s.Complete(0); c != 3 || cost != 5 || e != api.OK {
		t.Errorf("Complete of several: %d, %d, %v", c, cost, e)
	}
}

// P4.13

func TestOrderOfChoices(t *testing.T) {
	d := dice(4242)
	for s, x := range sessions(t, 100) {
		l := s.Choices()
		for range 3 {
			o, _ := decide.New(x.Model)
			for i := len(l) - 1; i > 0; i-- {
				k := d.roll(i + 1)
				l[i], l[k] = l[k], l[i]
			}
			for _, c := range l {
				if e := o.Decide(c.Feature, c.On); e != api.OK {
					t.Errorf("Decide in another order: %v in %s", e, shaped(s, x))
				}
			}
			if !slices.Equal(o.States(), s.States()) || !slices.Equal(o.Offers(), s.Offers()) || !o.Rest().Same(s.Rest()) {
				t.Errorf("another order makes a difference in %s", shaped(s, x))
			}
		}
	}
}
