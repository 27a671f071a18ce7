package run

import (
	"iter"
	"slices"

	"motley/api"
	"motley/diagram"
	"motley/syntax"
)

// passes reports whether an outcome is the one that a test wants.
func (x Test) passes(o Outcome) bool { return o.Status == api.Done && slices.Equal(o.Out, x.Want) }

// Fails returns, for each test, the configurations in within in which it fails.
func Fails(t syntax.Tree, within diagram.D, tests []Test, fuel int) ([]diagram.D, api.Errno) {
	if e := refused(t, fuel); e != api.OK {
		return nil, e
	}
	var l []diagram.D
	p := prepared(t, within)
	for _, x := range tests {
		l = append(l, p.fails(x, fuel))
	}
	return l, api.OK
}

func (p *program) fails(x Test, fuel int) diagram.D {
	d := diagram.False()
	for _, part := range p.parts(x.In, fuel) {
		if !x.passes(part.Outcome) {
			d = d.Or(part.Cond)
		}
	}
	return d
}

// Sampled returns, for each test, in which configurations of a sample it fails.
func Sampled(t syntax.Tree, sample []uint32, tests []Test, fuel int) ([][]bool, api.Errno) {
	if e := refused(t, fuel); e != api.OK {
		return nil, e
	}
	l := make([][]bool, len(tests))
	for p := range products(t, sample) {
		for k, x := range tests {
			l[k] = append(l[k], !x.passes(p.outcome(x.In, fuel)))
		}
	}
	return l, api.OK
}

// products yields the programs of the configurations of a sample.
func products(t syntax.Tree, sample []uint32) iter.Seq[*program] {
	return func(yield func(*program) bool) {
		for _, c := range sample {
			if !yield(product(t, c)) {
				return
			}
		}
	}
}
