package run_test

import (
	"slices"
	"strconv"

	"motley/api"
	"motley/check"
	"motley/run"
	"motley/syntax"
)

// This file has the run of one configuration, as the chapter says it: with scopes that hide each other, and a status
// that leaves the run at once.

// reference is a run.
type reference struct {
	root    syntax.Node
	in      []int64
	fuel    int
	calls   int
	globals *scope
	ran     map[int]bool // the tokens of statements that took a step
	run.Outcome
}

// scope has the variables of a block, and those around it.
type scope struct {
	values map[string]*int64
	outer  *scope
}

func (s *scope) inner() *scope { return &scope{map[string]*int64{}, s} }

func (s *scope) find(name string) *int64 {
	for ; s != nil; s = s.outer {
		if v, is := s.values[name]; is {
			return v
		}
	}
	panic("no variable " + name)
}

// ended leaves a run, returned a call.
type (
	ended    struct{}
	returned int64
)

// referred is the run of a configuration.
func referred(x syntax.Tree, c uint32, in []int64, fuel int) (r *reference) {
	r = &reference{in: in, fuel: fuel, calls: 1, ran: map[int]bool{}, Outcome: run.Outcome{Tok: -1}}
	x = syntax.Project(x, c)
	facts, _ := check.Plain(x, c)
	isError := func(f check.Fact) bool { return f.Kind == api.FactError }
	if len(x.Kids) == 0 || slices.ContainsFunc(facts, isError) {
		r.Status = api.Rejected
		return r
	}
	r.root = x.Kids[0]
	defer func() {
		if p := recover(); p != nil {
			_ = p.(ended)
		}
	}()
	r.globals = (*scope)(nil).inner()
	for _, n := range r.root.Kids {
		if n.Kind == api.Var {
			r.statement(n, r.globals)
		}
	}
	r.body(r.function("main"), r.globals.inner())
	return r
}

func (r *reference) function(name string) syntax.Node {
	k := slices.IndexFunc(r.root.Kids, func(n syntax.Node) bool { return n.Kind == api.Fn && n.Text == name })
	return r.root.Kids[k]
}

// kid is the kid in a slot, if there is one.
func kid(n syntax.Node, slot int) (syntax.Node, bool) {
	k := slices.IndexFunc(n.Kids, func(kid syntax.Node) bool { return kid.Slot == slot })
	if k < 0 {
		return syntax.Node{}, false
	}
	return n.Kids[k], true
}

func (r *reference) end(status uint8, tok int) {
	r.Status, r.Tok = status, tok
	panic(ended{})
}

func (r *reference) step(n syntax.Node) {
	if r.Steps == r.fuel {
		r.end(api.Fuel, n.Tok)
	}
	r.Steps++
}

// body executes the Block of a Fn, and returns what the Return gives.
func (r *reference) body(fn syntax.Node, s *scope) (value int64) {
	defer func() {
		switch p := recover().(type) {
		case nil:
		case returned:
			value = int64(p)
		default:
			panic(p)
		}
	}()
	block, _ := kid(fn, 2)
	r.all(block, s)
	return 0
}

func (r *reference) all(block syntax.Node, s *scope) {
	for _, n := range block.Kids {
		r.statement(n, s)
	}
}

func (r *reference) statement(n syntax.Node, s *scope) {
	if n.Kind == api.Block {
		r.all(n, s.inner())
		return
	}
	r.step(n)
	r.ran[n.Tok] = true
	switch n.Kind {
	case api.Var:
		value := r.slot(n, 1, s)
		s.values[n.Text] = &value
	case api.Assign:
		value := r.slot(n, 0, s)
		*s.find(n.Text) = value
	case api.If:
		r.branch(n, s)
	case api.While:
		for r.slot(n, 0, s) != 0 {
			body, _ := kid(n, 1)
			r.statement(body, s)
			r.step(n)
		}
	case api.Return:
		panic(returned(r.slot(n, 0, s)))
	case api.Print:
		r.Out = append(r.Out, r.slot(n, 0, s))
	case api.Assert:
		if r.slot(n, 0, s) == 0 {
			r.end(api.Failed, n.Tok)
		}
	case api.Call:
		r.call(n, s)
	}
}

func (r *reference) branch(n syntax.Node, s *scope) {
	slot := 1
	if r.slot(n, 0, s) == 0 {
		slot = 2
	}
	if way, is := kid(n, slot); is {
		r.statement(way, s)
	}
}

// slot is the value of an expression; 0 if there is none.
func (r *reference) slot(n syntax.Node, slot int, s *scope) int64 {
	if value, is := kid(n, slot); is {
		return r.value(value, s)
	}
	return 0
}

func (r *reference) value(n syntax.Node, s *scope) int64 {
	switch n.Kind {
	case api.Call:
		return r.call(n, s)
	case api.Read:
		if len(r.in) == 0 {
			return 0
		}
		first := r.in[0]
		r.in = r.in[1:]
		return first
	case api.Name:
		return *s.find(n.Text)
	case api.Number:
		value, _ := strconv.Atoi(n.Text)
		return int64(value)
	case api.Bool:
		return bit(n.Text == "true")
	case api.Unary:
		if n.Text == "-" {
			return -r.slot(n, 0, s)
		}
		return bit(r.slot(n, 0, s) == 0)
	}
	return r.binary(n, s)
}

func bit(is bool) int64 {
	if is {
		return 1
	}
	return 0
}

func (r *reference) call(n syntax.Node, s *scope) int64 {
	fn := r.function(n.Text)
	inner := r.globals.inner()
	var names []string
	for _, p := range fn.Kids {
		if p.Kind == api.Param {
			names = append(names, p.Text)
		}
	}
	for k, arg := range n.Kids {
		value := r.value(arg, s)
		inner.values[names[k]] = &value
	}
	if r.calls == api.MaxCalls {
		r.end(api.Deep, n.Tok)
	}
	r.step(n)
	r.calls++
	value := r.body(fn, inner)
	r.calls--
	return value
}

func (r *reference) binary(n syntax.Node, s *scope) int64 {
	a := r.slot(n, 0, s)
	if n.Text == "&&" && a == 0 || n.Text == "||" && a != 0 {
		return a
	}
	b := r.slot(n, 1, s)
	if (n.Text == "/" || n.Text == "%") && b == 0 {
		r.end(api.Zero, n.Tok)
	}
	switch n.Text {
	case "+":
		return a + b
	case "-":
		return a - b
	case "*":
		return a * b
	case "/":
		return a / b
	case "%":
		return a % b
	case "==":
		return bit(a == b)
	case "!=":
		return bit(a != b)
	case "<":
		return bit(a < b)
	case "<=":
		return bit(a <= b)
	case ">":
		return bit(a > b)
	case ">=":
		return bit(a >= b)
	}
	return b // of && and ||
}
