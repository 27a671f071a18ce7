package bench

import "motley/sample"

func (w *workspace) sample(q *request) {
	t := number(q.exactly(1)[0])
	f := w.family()
	for _, c := range got(sample.Extend(f.Model, int(t), nil)) {
		q.write(f.shown(c))
	}
}

// bound tells why no sample is smaller.
func (w *workspace) bound(q *request) {
	t := number(q.exactly(1)[0])
	f := w.family()
	for _, c := range got(sample.Bound(f.Model, int(t))) {
		q.write(f.cube(c))
	}
}
