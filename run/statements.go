package run

import (
	"sync"

	"motley/api"
)

// statement executes a statement.
func (r *runner) statement(n *node, f *frame) {
	if n.kind != api.Block {
		r.step(n)
		if r.noneIsLive() {
			return
		}
		if r.executed != nil {
			r.executed[n.tok] = r.union(r.executed.of(n.tok), r.live)
		}
	}
	r.statements[n.kind](r, n, f)
}

// all executes the statements in a slot.
func (r *runner) all(n *node, slot int, f *frame) {
	for _, kid := range n.slots[slot] {
		r.under(kid, func() { r.statement(kid, f) })
	}
}

func (r *runner) block(n *node, f *frame) { r.all(n, 0, f) }

func (r *runner) variable(n *node, f *frame) { r.variables(n, f)[n] = r.value(n, 1, f) }

// variables are those among which a variable is.
func (r *runner) variables(declaration *node, f *frame) variables {
	if declaration.global {
		return r.globals
	}
	return f.locals
}

func (r *runner) assign(n *node, f *frame) {
	value := r.value(n, 0, f)
	for _, m := range n.means {
		r.during(m.cond, func() {
			all := r.variables(m.declaration, f)
			all[m.declaration] = r.choose(r.live, value, all.of(m.declaration))
		})
	}
}

func (r *runner) branch(n *node, f *frame) {
	yes, no := r.divided(r.value(n, 0, f))
	r.during(yes, func() { r.all(n, 1, f) })
	r.during(no, func() { r.all(n, 2, f) })
}

func (r *runner) loop(n *node, f *frame) {
	left := same(0)
	for !r.noneIsLive() {
		yes, no := r.divided(r.value(n, 0, f))
		left = r.union(left, no)
		r.live = yes
		r.all(n, 1, f)
		if !r.noneIsLive() {
			r.step(n)
		}
	}
	r.live = left
}

func (r *runner) leave(n *node, f *frame) {
	value := r.value(n, 0, f)
	f.result = r.choose(r.live, value, f.result)
	f.returned = r.union(f.returned, r.live)
	r.live = same(0)
}

func (r *runner) print(n *node, f *frame) {
	value := r.value(n, 0, f)
	longer := r.combine(r.narrow(r.output, r.live), value, func(before, last int64) int64 {
		return r.outputs.number(output{before, last})
	})
	r.output = r.choose(r.live, longer, r.output)
}

func (r *runner) assert(n *node, f *frame) { r.lift(n, asserted, r.value(n, 0, f), same(0)) }

// proceed executes a Call that is a statement.
func (r *runner) proceed(n *node, f *frame) { r.call(n, f) }

// manyLevels is how many levels a tree may have so that calls can be nested on one stack.
const manyLevels = 1000

// body executes the Block of a Fn.
func (r *runner) body(fn *node, f *frame) {
	execute := func() { r.all(fn, 2, f) }
	if r.levels > manyLevels {
		onOwnStack(execute)
	} else {
		execute()
	}
	r.live = r.union(r.live, f.returned)
}

// onOwnStack does something on another stack: on one alone there is no room for many calls, each on many levels.
func onOwnStack(do func()) {
	var done sync.WaitGroup
	done.Go(do)
	done.Wait()
}
