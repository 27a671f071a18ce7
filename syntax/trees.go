package syntax

import (
	"cmp"
	"maps"
	"slices"
	"strings"

	"motley/diagram"
)

// The functions of this file take any tree, valid or not. Such a tree may have more levels than calls can be nested,
// so they do not call themselves; and as Kids are slices, a value may even have a node below itself: it is no tree,
// and is taken as one without nodes.

// task is the making of a list of nodes from something.
type task[T any] struct {
	into *[]Node
	from T
}

// build makes nodes from the top. From something list makes a list of nodes without kids, and tells from what the
// kids of each of them are to be made.
func build[T any](top T, list func(T) ([]Node, []T)) []Node {
	var all []Node
	for todo := []task[T]{{&all, top}}; len(todo) > 0; {
		t := todo[len(todo)-1]
		todo = todo[:len(todo)-1]
		nodes, below := list(t.from)
		*t.into = nodes
		for k, from := range below {
			todo = append(todo, task[T]{&nodes[k].Kids, from})
		}
	}
	return all
}

// change returns the condition that a thing with a condition is to have, and whether it is to stay at all.
type change func(diagram.D) (diagram.D, bool)

// ofConfiguration is the change of a projection.
func ofConfiguration(c uint32) change {
	return func(d diagram.D) (diagram.D, bool) {
		if d.Has(c) {
			return diagram.True(), true
		}
		return diagram.False(), false
	}
}

func asIs(d diagram.D) (diagram.D, bool) { return d, true }

// changed returns nodes as new memory, with other conditions. A node that does not stay takes its kids with it.
func changed(kids []Node, change change) []Node {
	return build(kids, func(from []Node) (l []Node, below [][]Node) {
		for _, n := range from {
			if cond, stays := change(n.Cond); stays {
				l = append(l, n.alone(cond))
				below = append(below, n.Kids)
			}
		}
		return l, below
	})
}

// alone is the node without its kids.
func (n Node) alone(cond diagram.D) Node {
	n.Kids, n.Cond = nil, cond
	return n
}

func (t Tree) changed(change change) Tree {
	var diags []Diag
	for _, g := range t.Diags {
		if cond, stays := change(g.Cond); stays {
			diags = append(diags, Diag{g.Code, g.Tok, cond})
		}
	}
	return Tree{changed(t.kids(), change), diags}
}

// Project returns what a configuration has of a tree.
func Project(t Tree, c uint32) Tree { return t.changed(ofConfiguration(c)) }

// Restrict returns what some configurations have of a tree.
func Restrict(t Tree, d diagram.D) Tree {
	return t.changed(func(cond diagram.D) (diagram.D, bool) {
		cond = meet(cond, d)
		return cond, !cond.Empty()
	})
}

// key is what tells siblings apart.
type key struct {
	slot, tok int
	kind      uint8
	text      string
}

func (n Node) key() key { return key{n.Slot, n.Tok, n.Kind, n.Text} }

func (k key) compare(o key) int {
	return cmp.Or(cmp.Compare(k.slot, o.slot), cmp.Compare(k.tok, o.tok), cmp.Compare(k.kind, o.kind),
		strings.Compare(k.text, o.text))
}

// Merge returns the merge of trees.
func Merge(l []Tree) Tree {
	var kids [][]Node
	faults := shares[fault]{}
	for _, t := range l {
		kids = append(kids, t.kids())
		for _, g := range t.Diags {
			faults.add(fault{g.Tok, g.Code}, g.Cond)
		}
	}
	return Tree{build(kids, mergeLists), diagnostics(faults)}
}

// mergeLists makes one node of those that have the same key, and tells the lists of their kids.
func mergeLists(lists [][]Node) (l []Node, below [][][]Node) {
	conds := shares[key]{}
	kids := map[key][][]Node{}
	for _, list := range lists {
		for _, n := range list {
			if !n.Cond.Empty() {
				conds.add(n.key(), n.Cond)
				kids[n.key()] = append(kids[n.key()], n.Kids)
			}
		}
	}
	for _, k := range slices.SortedFunc(maps.Keys(conds), key.compare) {
		l = append(l, Node{Kind: k.kind, Text: k.text, Tok: k.tok, Slot: k.slot, Cond: conds[k]})
		below = append(below, kids[k])
	}
	return l, below
}

func (f fault) compare(o fault) int {
	return cmp.Or(cmp.Compare(f.tok, o.tok), cmp.Compare(f.code, o.code))
}

// diagnostics are the faults in their order.
func diagnostics(faults shares[fault]) []Diag {
	var l []Diag
	for _, f := range slices.SortedFunc(maps.Keys(faults), fault.compare) {
		l = append(l, Diag{f.code, f.tok, faults[f]})
	}
	return l
}

// Same reports whether two trees are equal in all fields.
func Same(a, b Tree) bool {
	return slices.EqualFunc(a.Diags, b.Diags, Diag.same) && sameNodes(a.kids(), b.kids())
}

func (g Diag) same(o Diag) bool { return g.Code == o.Code && g.Tok == o.Tok && g.Cond.Same(o.Cond) }

// same reports whether two nodes are equal in all fields but their kids.
func (n Node) same(o Node) bool { return n.key() == o.key() && n.Cond.Same(o.Cond) }

func sameNodes(a, b []Node) bool {
	type pair struct{ a, b []Node }
	for todo := []pair{{a, b}}; len(todo) > 0; {
		p := todo[len(todo)-1]
		todo = todo[:len(todo)-1]
		if !slices.EqualFunc(p.a, p.b, Node.same) {
			return false
		}
		for k := range p.a {
			todo = append(todo, pair{p.a[k].Kids, p.b[k].Kids})
		}
	}
	return true
}

// Whole returns the configurations that have a program.
func Whole(t Tree) diagram.D {
	whole := diagram.False()
	for _, n := range t.Kids {
		whole = whole.Or(n.Cond)
	}
	return whole
}

// kids are the kids of the tree; none if some node has itself below it.
func (t Tree) kids() []Node {
	finished := map[*Node]bool{} // what is begun, but not finished, is above the node that is looked at
	for todo := []*Node{{Kids: t.Kids}}; len(todo) > 0; {
		n := todo[len(todo)-1]
		if _, begun := finished[n]; begun {
			finished[n] = true
			todo = todo[:len(todo)-1]
			continue
		}
		finished[n] = false
		for k := range n.Kids {
			kid := &n.Kids[k]
			switch ended, begun := finished[kid]; {
			case begun && !ended:
				return nil
			case !begun && len(kid.Kids) > 0:
				todo = append(todo, kid)
			}
		}
	}
	return t.Kids
}
