package check

import (
	"motley/api"
	"motley/diagram"
	"motley/syntax"
)

// sets has the definitions that reach a place, by their tokens, for each local variable. A set is never changed.
type sets map[*decl]shares[int]

// state is the state at a place.
type state struct {
	live  diagram.D // where the place is reached; what the sets say of other configurations means nothing
	sets            // of the variables that were changed since the way to the place parted from others
	outer *state    // where that was
}

// reaching are the definitions of a variable that reach the place.
func (s *state) reaching(v *decl) shares[int] {
	for ; s != nil; s = s.outer {
		if set, is := s.sets[v]; is {
			return set
		}
	}
	return nil
}

// part is the same state on one of several ways.
func (s *state) part() *state { return &state{s.live, sets{}, s} }

// rejoin is the state where two ways, which parted at s, come together.
func (s *state) rejoin(a, b *state) {
	for _, way := range [...]*state{a, b} {
		for v := range way.sets {
			set := shares[int]{}
			join(set, a.reaching(v), a.live)
			join(set, b.reaching(v), b.live)
			s.sets[v] = set
		}
	}
	s.live = a.live.Or(b.live)
}

// unite adds definitions.
func (s *state) unite(more sets) {
	for v, definitions := range more {
		set := shares[int]{}
		join(set, s.reaching(v), diagram.True())
		join(set, definitions, diagram.True())
		s.sets[v] = set
	}
}

// end says that the place is not reached in some configurations.
func (s *state) end(d diagram.D) { s.live = without(s.live, d) }

// flow follows what is executed.
type flow struct {
	*checker
	doers  [api.Call + 1]doer
	rounds map[*syntax.Node]sets // by Whiles: the definitions in slot 1 that reach its end
	silent bool                  // while only the definitions are asked for
}

// doer executes a statement: the state before it becomes the one after it.
type doer func(*flow, *syntax.Node, *state)

// flows adds the facts of the flow.
func (c *checker) flows() {
	f := &flow{checker: c, rounds: map[*syntax.Node]sets{}}
	f.doers = [...]doer{
		api.Var:    (*flow).variable,
		api.Block:  (*flow).block,
		api.Assign: (*flow).assign,
		api.If:     (*flow).choice,
		api.While:  (*flow).loop,
		api.Return: (*flow).returned,
		api.Print:  (*flow).reads,
		api.Assert: (*flow).reads,
		api.Call:   (*flow).reads,
	}
	for _, d := range c.decls {
		if d.node.Kind == api.Fn {
			f.function(d)
		}
	}
}

func (f *flow) function(d *decl) {
	s := &state{live: d.node.Cond, sets: sets{}}
	for p := range kids(d.node, 0) {
		s.define(f.of[p])
	}
	for body := range kids(d.node, 2) {
		f.block(body, s)
	}
	f.fail(api.CodeFall, d.node.Tok, meet(s.live, d.any()))
}

// define lets a variable be reached by its declaration alone.
func (s *state) define(v *decl) {
	set := shares[int]{}
	set.add(v.node.Tok, v.counts)
	s.sets[v] = set
}

func (f *flow) statement(n *syntax.Node, s *state) { f.doers[n.Kind](f, n, s) }

func (f *flow) block(n *syntax.Node, s *state) {
	before := diagram.False() // where the kid that precedes is reached
	for kid := range kids(n, 0) {
		if !f.silent {
			f.fail(api.CodeDead, kid.Tok, without(meet(kid.Cond, before), s.live))
			before = kid.Cond.Ite(s.live, before)
		}
		f.statement(kid, s)
	}
	for kid := range kids(n, 0) {
		delete(s.sets, f.of[kid])
	}
}

// reads executes the expressions of a statement, which may be all that it has.
func (f *flow) reads(n *syntax.Node, s *state) {
	for k := range n.Kids {
		f.expression(&n.Kids[k], s)
	}
}

func (f *flow) expression(n *syntax.Node, s *state) {
	if f.silent {
		return
	}
	if n.Kind == api.Name {
		f.name(n, s)
	}
	f.reads(n, s)
}

func (f *flow) name(n *syntax.Node, s *state) {
	for _, v := range f.uses[n] {
		if !v.isLocal() {
			continue
		}
		here := meet(v.cond, s.live)
		for tok, d := range s.reaching(v.decl) {
			d = meet(d, here)
			f.add(api.FactFlow, n.Tok, tok, d)
			if tok == v.node.Tok {
				f.fail(api.CodeInit, n.Tok, meet(d, v.unset))
			}
		}
	}
}

func (f *flow) variable(n *syntax.Node, s *state) {
	for value := range kids(n, 1) {
		f.expression(value, s)
	}
	s.define(f.of[n])
}

func (f *flow) assign(n *syntax.Node, s *state) {
	f.reads(n, s)
	for _, v := range f.uses[n] {
		if v.isLocal() {
			set := shares[int]{}
			join(set, s.reaching(v.decl), v.cond.Not())
			set.add(n.Tok, v.cond)
			s.sets[v.decl] = set
		}
	}
}

func (f *flow) returned(n *syntax.Node, s *state) {
	f.reads(n, s)
	s.end(n.Cond)
}

// condition executes slot 0.
func (f *flow) condition(n *syntax.Node, s *state) {
	for kid := range kids(n, 0) {
		f.expression(kid, s)
	}
}

// way executes a slot with statements.
func (f *flow) way(n *syntax.Node, slot int, s *state) *state {
	for kid := range kids(n, slot) {
		f.statement(kid, s)
	}
	return s
}

func (f *flow) choice(n *syntax.Node, s *state) {
	f.condition(n, s)
	s.rejoin(f.way(n, 1, s.part()), f.way(n, 2, s.part()))
}

// loop executes a While. What slot 1 does with a state is to take some definitions from it and to add some, always the
// same ones: so the state at the condition is the one before it, with those that slot 1 adds.
func (f *flow) loop(n *syntax.Node, s *state) {
	s.unite(f.round(n))
	f.condition(n, s)
	if !f.silent {
		f.way(n, 1, s.part())
	}
	for kid := range kids(n, 0) {
		if kid.Kind == api.Bool && kid.Text == trueWord {
			s.end(kid.Cond)
		}
	}
}

// round are the definitions in slot 1 of a While that reach its end.
func (f *flow) round(n *syntax.Node) sets {
	if l, known := f.rounds[n]; known {
		return l
	}
	silent := f.silent
	f.silent = true
	s := f.way(n, 1, &state{live: n.Cond, sets: sets{}})
	f.silent = silent
	for v, set := range s.sets {
		reached := shares[int]{}
		join(reached, set, s.live)
		s.sets[v] = reached
	}
	f.rounds[n] = s.sets
	return s.sets
}
