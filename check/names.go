package check

import (
	"iter"

	"motley/api"
	"motley/diagram"
	"motley/syntax"
)

// decl is a declaration.
type decl struct {
	node   *syntax.Node
	counts diagram.D // where it counts
	typing           // of a Fn: that of its result
	params []typing  // of a Fn: those of its Params, by their number
	arity  shares[int]
	global bool
	unset  diagram.D // where a Var has no value
}

// kids yields the kids in a slot.
func kids(n *syntax.Node, slot int) iter.Seq[*syntax.Node] {
	return func(yield func(*syntax.Node) bool) {
		for k := range n.Kids {
			if n.Kids[k].Slot == slot && !yield(&n.Kids[k]) {
				return
			}
		}
	}
}

// filled is where a slot has a kid.
func filled(n *syntax.Node, slot int) diagram.D {
	d := diagram.False()
	for kid := range kids(n, slot) {
		d = d.Or(kid.Cond)
	}
	return d
}

// declared is what a node declares. It counts everywhere, as long as it is in no table.
func declared(n *syntax.Node) *decl {
	d := &decl{node: n, counts: n.Cond}
	switch n.Kind {
	case api.Fn:
		d.typing = written(n, 1)
		d.params, d.arity = signature(n)
	case api.Var:
		d.typing = written(n, 0)
		d.unset = without(n.Cond, filled(n, 1))
	case api.Param:
		d.typing = written(n, 0)
	}
	return d
}

// signature are the types of the Params of a Fn, and how many there are. In each configuration the Params are numbered
// without those that it has not.
func signature(n *syntax.Node) ([]typing, shares[int]) {
	var params []typing
	arity := shares[int]{0: n.Cond}
	for p := range kids(n, 0) {
		types := written(p, 0)
		for k, d := range arity {
			if here := types.within(d); !here.any().Empty() {
				params = append(params, make([]typing, max(0, k+1-len(params)))...)
				params[k] = params[k].or(here)
			}
		}
		arity = counted(arity, p.Cond)
	}
	return params, arity
}

// isLocal reports whether it is a local variable.
func (d *decl) isLocal() bool { return d.node.Kind != api.Fn && !d.global }

// table has the declarations that count, by their names.
type table map[string][]*decl

// put lays a declaration down, as far as it counts.
func (t table) put(d *decl) {
	if !d.counts.Empty() {
		t[d.node.Text] = append(t[d.node.Text], d)
	}
}

// declare takes a declaration, which counts only where none has its name yet. It returns where one has.
func (t table) declare(d *decl) diagram.D {
	twice := diagram.False()
	for _, old := range t[d.node.Text] {
		twice = twice.Or(meet(old.counts, d.counts))
	}
	d.counts = without(d.counts, twice)
	t.put(d)
	return twice
}

// scope is a table within others.
type scope struct {
	table
	outer *scope
}

// found is a declaration, and where it is the one that is meant.
type found struct {
	*decl
	cond diagram.D
}

// find tells what a name means in some configurations: declarations, and where there is none.
func (s *scope) find(name string, d diagram.D) (l []found, none diagram.D) {
	for ; s != nil && !d.Empty(); s = s.outer {
		for _, x := range s.table[name] {
			if here := meet(x.counts, d); !here.Empty() {
				l = append(l, found{x, here})
				d = without(d, here)
			}
		}
	}
	return l, d
}

// place is where something is: the scope, and the Fn; without one it is in the value of a global Var.
type place struct {
	*scope
	fn *decl
}

// inner is a scope within that of the place.
func (p place) inner() place { return place{&scope{table{}, p.scope}, p.fn} }
