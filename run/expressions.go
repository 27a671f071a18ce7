package run

import "motley/api"

// Two operators do not always evaluate their second operand.
const (
	andWord = "&&"
	orWord  = "||"
)

// value evaluates what is in a slot; where nothing is in it, it is 0.
func (r *runner) value(n *node, slot int, f *frame) *choice {
	value := same(0)
	for _, kid := range n.slots[slot] {
		r.under(kid, func() {
			have := r.expression(kid, f)
			if kid.always { // and so the only one
				value = have
			} else {
				value = r.choose(kid.cond, have, value)
			}
		})
	}
	return r.narrow(value, r.live)
}

func (r *runner) expression(n *node, f *frame) *choice { return r.expressions[n.kind](r, n, f) }

func (r *runner) literal(n *node, _ *frame) *choice { return same(n.value) }

func (r *runner) unary(n *node, f *frame) *choice {
	return r.lift(n, n.op, r.value(n, 0, f), same(0))
}

func (r *runner) binary(n *node, f *frame) *choice {
	first := r.value(n, 0, f)
	switch n.name {
	case andWord:
		yes, _ := r.divided(first)
		return r.second(n, yes, first, f)
	case orWord:
		_, no := r.divided(first)
		return r.second(n, no, first, f)
	}
	return r.lift(n, n.op, first, r.value(n, 1, f))
}

// second evaluates the second operand in some configurations; in the others the first one is the value.
func (r *runner) second(n *node, set, first *choice, f *frame) *choice {
	value := first
	r.during(set, func() { value = r.choose(set, r.value(n, 1, f), first) })
	return value
}

func (r *runner) read(_ *node, _ *frame) *choice {
	at := r.narrow(r.inputs, r.live)
	have := int64(len(r.in))
	value := r.combine(at, same(have), func(x, have int64) int64 {
		if x < have {
			return r.in[x]
		}
		return 0
	})
	next := r.combine(at, same(have), func(x, have int64) int64 { return min(x+1, have) })
	r.inputs = r.choose(r.live, next, r.inputs)
	return value
}

func (r *runner) name(n *node, f *frame) *choice {
	value := same(0)
	for _, m := range n.means {
		value = r.choose(m.cond, r.variables(m.declaration, f).of(m.declaration), value)
	}
	return r.narrow(value, r.live)
}

func (r *runner) call(n *node, f *frame) *choice {
	arguments := r.arguments(n, f)
	value := same(0)
	for _, m := range n.means {
		r.during(m.cond, func() {
			value = r.choose(m.cond, r.enter(n, m.declaration, arguments, f), value)
		})
	}
	return r.narrow(value, r.live)
}

// arguments evaluates the kids of a Call. They are by their numbers.
func (r *runner) arguments(n *node, f *frame) values[int] {
	l := values[int]{}
	for _, kid := range n.slots[0] {
		r.under(kid, func() {
			value := r.expression(kid, f)
			for _, p := range kid.places {
				l[p.number] = r.choose(p.cond, value, l.of(p.number))
			}
		})
	}
	return l
}

// enter executes a Fn.
func (r *runner) enter(n, fn *node, arguments values[int], f *frame) *choice {
	depth := r.lift(n, nested, same(f.depth), same(api.MaxCalls))
	if r.noneIsLive() {
		return same(0)
	}
	r.step(n)
	if r.noneIsLive() {
		return same(0)
	}
	inner := newFrame(depth.number)
	for _, param := range fn.slots[0] {
		value := same(0)
		for _, p := range param.places {
			value = r.choose(p.cond, arguments.of(p.number), value)
		}
		inner.locals[param] = r.narrow(value, r.live)
	}
	r.body(fn, inner)
	return inner.result
}
