package bench

import (
	"strconv"

	"motley/api"
	"motley/model"
)

// maxListed is how many configurations are listed at most.
const maxListed = 64

// analyse tells what follows from the model.
func (w *workspace) analyse(q *request) {
	q.exactly(0)
	f := w.family()
	a := got(model.Analyse(f.Model))
	q.write("features", strconv.Itoa(len(f.names)))
	q.write("rules", strconv.Itoa(len(got(model.Rules(f.Model)))))
	if a.Void {
		q.write("void")
		return
	}
	q.write("products", strconv.FormatUint(a.Count, 10))
	q.write("core", f.shown(a.Core))
	q.write("dead", f.shown(a.Dead))
	q.write("false", f.shown(a.FalseOptional))
	redundant := []string{"redundant"}
	for _, rule := range a.Redundant {
		redundant = append(redundant, strconv.Itoa(rule))
	}
	q.write(redundant...)
}

func (w *workspace) rules(q *request) {
	q.exactly(0)
	f := w.family()
	for rule := range got(model.Rules(f.Model)) {
		q.writeRule(f, rule)
	}
}

// writeRule writes a rule of a model.
func (q *request) writeRule(f family, rule int) {
	q.write(strconv.Itoa(rule), got(model.RuleText(f.Model, rule)))
}

func (w *workspace) count(q *request) {
	args := q.exactly(1)
	f := w.family()
	q.write(f.sizeText(f.set(args[0])))
}

func (w *workspace) list(q *request) {
	args := q.exactly(1)
	f := w.family()
	set := f.set(args[0])
	if f.size(set) > maxListed {
		fail(api.ErrLimit)
	}
	for c := range set.All(len(f.names)) {
		q.write(f.shown(c))
	}
}

func (w *workspace) least(q *request) {
	args := q.exactly(1)
	f := w.family()
	set := f.set(args[0])
	if set.Empty() {
		fail(api.ErrNone)
	}
	q.write(f.smallest(set))
}

// why tells which rules exclude a set.
func (w *workspace) why(q *request) {
	args := q.exactly(1)
	f := w.family()
	for _, rule := range got(model.Why(f.Model, f.set(args[0]))) {
		q.writeRule(f, rule)
	}
}
