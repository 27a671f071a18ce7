package run

import (
	"cmp"
	"slices"

	"motley/api"
	"motley/check"
)

// runner runs a program in all configurations at once. At each time it is at one place of the program, with those that
// are live there.
type runner struct {
	*program
	in   []int64
	fuel int64
	live *choice

	steps, inputs, output, ended *choice // of all configurations; outputs and endings by their numbers in the registers
	outputs                      register[output]
	endings                      register[ending]
	globals                      variables
	executed                     values[int] // by the tokens of statements: where they took a step; nil: nobody asks

	statements  [api.Call + 1]func(*runner, *node, *frame)
	expressions [api.Call + 1]func(*runner, *node, *frame) *choice
}

// values are values of things; of those that have none it is 0.
type values[K comparable] map[K]*choice

func (v values[K]) of(k K) *choice {
	if value, is := v[k]; is {
		return value
	}
	return same(0)
}

// variables are by their declarations.
type variables = values[*node]

// frame is a call that is active.
type frame struct {
	locals   variables
	depth    int64   // how many calls are active
	returned *choice // the configurations in which it has ended
	result   *choice // what it gave there
}

// output is a list of outputs: the list without the last one, and this.
type output struct{ before, last int64 }

// ending is how a run ended.
type ending struct {
	status uint8
	tok    int
}

// register gives numbers to things, from 1 on, and the same number to equal things.
type register[T comparable] struct {
	things  []T
	numbers map[T]int64
}

func (r *register[T]) number(x T) int64 {
	if n, is := r.numbers[x]; is {
		return n
	}
	if r.numbers == nil {
		r.numbers = map[T]int64{}
	}
	r.things = append(r.things, x)
	r.numbers[x] = int64(len(r.things))
	return r.numbers[x]
}

// thing is the thing with a number, and whether there is one.
func (r *register[T]) thing(n int64) (x T, is bool) {
	if n == 0 {
		return x, false
	}
	return r.things[n-1], true
}

func newRunner(p *program, in []int64, fuel int) *runner {
	return &runner{
		program: p, in: in, fuel: int64(fuel), live: same(1), globals: variables{},
		steps: same(0), inputs: same(0), output: same(0), ended: same(0),
		statements: [...]func(*runner, *node, *frame){
			api.Var:    (*runner).variable,
			api.Block:  (*runner).block,
			api.Assign: (*runner).assign,
			api.If:     (*runner).branch,
			api.While:  (*runner).loop,
			api.Return: (*runner).leave,
			api.Print:  (*runner).print,
			api.Assert: (*runner).assert,
			api.Call:   (*runner).proceed,
		},
		expressions: [...]func(*runner, *node, *frame) *choice{
			api.Binary: (*runner).binary,
			api.Unary:  (*runner).unary,
			api.Number: (*runner).literal,
			api.Bool:   (*runner).literal,
			api.Read:   (*runner).read,
			api.Name:   (*runner).name,
			api.Call:   (*runner).call,
		},
	}
}

// run executes the global Vars, and main.
func (r *runner) run() {
	for _, root := range r.above.slots[0] {
		for _, n := range root.slots[0] {
			if n.kind == api.Var {
				r.under(n, func() { r.statement(n, nil) })
			}
		}
		for _, n := range root.slots[0] {
			if n.kind == api.Fn && n.name == mainName {
				r.under(n, func() { r.body(n, newFrame(1)) })
			}
		}
	}
}

func newFrame(depth int64) *frame {
	return &frame{locals: variables{}, depth: depth, returned: same(0), result: same(0)}
}

// noneIsLive reports whether no configuration is here any more.
func (r *runner) noneIsLive() bool { return r.live.isEmpty() }

// during does something for those that are in a set, if there are any.
func (r *runner) during(set *choice, do func()) {
	all := r.live
	here := r.meet(all, set)
	if here.isEmpty() {
		return
	}
	r.live = here
	do()
	if r.live == here {
		r.live = all
	} else {
		r.live = r.union(r.live, r.without(all, here))
	}
}

// under does something for those that have a node.
func (r *runner) under(n *node, do func()) {
	switch {
	case !n.always:
		r.during(n.cond, do)
	case !r.noneIsLive():
		do()
	}
}

// lift takes an operation to the numbers of two choices. Those for which it stops end here.
func (r *runner) lift(n *node, op operation, a, b *choice) *choice {
	var status stop
	result := r.combine(a, b, func(x, y int64) int64 {
		z, s := attempt(op, x, y)
		status = max(status, s)
		return z
	})
	if status != 0 {
		stopped := r.combine(a, b, func(x, y int64) int64 {
			_, s := attempt(op, x, y)
			return truth(s != 0)
		})
		r.end(stopped, ending{uint8(status), n.tok})
	}
	return result
}

// attempt gives what an operation gives, or the status with which it stops.
func attempt(op operation, x, y int64) (z int64, s stop) {
	defer func() { s, _ = recover().(stop) }()
	return op(x, y), 0
}

// end sets those aside that are in a set.
func (r *runner) end(set *choice, e ending) {
	here := r.meet(r.live, set)
	r.ended = r.choose(here, same(r.endings.number(e)), r.ended)
	r.live = r.without(r.live, here)
}

// step takes a step.
func (r *runner) step(n *node) {
	steps := r.lift(n, counted, r.narrow(r.steps, r.live), same(r.fuel))
	r.steps = r.choose(r.live, steps, r.steps)
}

// divided are those that are live, by whether a value is true.
func (r *runner) divided(value *choice) (yes, no *choice) {
	yes = r.meet(r.live, r.combine(value, same(0), isTrue))
	return yes, r.without(r.live, yes)
}

// result is an outcome of runs, by numbers.
type result struct{ ended, steps, output int64 }

// outcomes are the parts of those that were not rejected.
func (r *runner) outcomes() []Part {
	var results register[result]
	stepped := r.combine(r.ended, r.steps, func(x, y int64) int64 { return results.number(result{x, y, 0}) })
	all := r.combine(stepped, r.output, func(x, y int64) int64 {
		begun, _ := results.thing(x)
		return results.number(result{begun.ended, begun.steps, y})
	})
	var l []Part
	for number, d := range all.conditions() {
		x, _ := results.thing(number)
		l = append(l, Part{d.And(r.good), r.outcomeOf(x)})
	}
	return l
}

func (r *runner) outcomeOf(x result) Outcome {
	o := Outcome{Status: api.Done, Tok: -1, Steps: int(x.steps)}
	if e, is := r.endings.thing(x.ended); is {
		o.Status, o.Tok = e.status, e.tok
	}
	for n := x.output; n != 0; {
		list, _ := r.outputs.thing(n)
		o.Out = append(o.Out, list.last)
		n = list.before
	}
	slices.Reverse(o.Out)
	return o
}

// places are where which statement took a step.
func (r *runner) places() []check.Place {
	var l []check.Place
	for tok, set := range r.executed {
		if d := set.conditions()[1].And(r.good); !d.Empty() {
			l = append(l, check.Place{Tok: tok, Cond: d})
		}
	}
	slices.SortFunc(l, func(a, b check.Place) int { return cmp.Compare(a.Tok, b.Tok) })
	return l
}
