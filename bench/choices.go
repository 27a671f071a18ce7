package bench

import (
	"slices"
	"strconv"

	"motley/api"
	"motley/decide"
)

// The signs of choices.
const (
	onSign  = "+"
	offSign = "-"
)

// stateWords are the words for the states of features.
var stateWords = [...]string{
	decide.Free:    "free",
	decide.Chosen:  "chosen",
	decide.Refused: "refused",
	decide.Forced:  "forced",
	decide.Barred:  "barred",
}

// session is the one with the choices of the workspace.
func (w *workspace) session(f family) *decide.Session {
	s, _, e := decide.Load(f.Model, w.choices)
	must(e)
	return s
}

func (w *workspace) choose(q *request) { w.decide(q, true) }

func (w *workspace) refuse(q *request) { w.decide(q, false) }

// decide adds a choice.
func (w *workspace) decide(q *request, on bool) {
	args := q.exactly(1)
	f := w.family()
	feature := f.feature(args[0])
	s := w.session(f)
	must(s.Decide(feature, on))
	w.choices = s.Text()
	q.ok()
}

func (w *workspace) undo(q *request) {
	q.exactly(0)
	f := w.family()
	s := w.session(f)
	choice := got(s.Undo())
	w.choices = s.Text()
	sign := offSign
	if choice.On {
		sign = onSign
	}
	q.write(sign, f.names[choice.Feature])
}

func (w *workspace) states(q *request) {
	q.exactly(0)
	f := w.family()
	for i, state := range w.session(f).States() {
		q.write(f.names[i], stateWords[state])
	}
}

// complete tells the cheapest configuration that agrees with all choices.
func (w *workspace) complete(q *request) {
	args := q.exactly(1)
	f := w.family()
	s := w.session(f)
	attribute := slices.IndexFunc(f.Attributes, func(a api.Attribute) bool { return a.Name == args[0] })
	if attribute < 0 {
		fail(api.ErrNone)
	}
	c, cost, e := s.Complete(attribute)
	must(e)
	q.write(f.shown(c), strconv.FormatInt(cost, 10))
}
