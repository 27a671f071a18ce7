package check

import (
	"cmp"
	"slices"
	"strings"

	"motley/api"
	"motley/diagram"
	"motley/syntax"
)

// Clean returns the configurations that have a program and no error.
func Clean(t syntax.Tree, within diagram.D) (diagram.D, api.Errno) {
	l, e := Family(t, within)
	if e != api.OK {
		return diagram.D{}, e
	}
	clean := meet(syntax.Whole(t), within)
	for _, f := range l {
		if f.Kind == api.FactError {
			clean = without(clean, f.Cond)
		}
	}
	return clean, api.OK
}

// Interface returns the global declarations that count.
func Interface(t syntax.Tree, within diagram.D) ([]Decl, api.Errno) {
	if !syntax.Valid(t) {
		return nil, api.ErrArg
	}
	var l []Decl
	for _, d := range examined(syntax.Restrict(t, within)).decls {
		if d.global {
			l = append(l, d.faces()...)
		}
	}
	slices.SortFunc(l, Decl.compare)
	return l, api.OK
}

func (d Decl) compare(o Decl) int {
	return cmp.Or(cmp.Compare(d.Tok, o.Tok), cmp.Compare(d.Kind, o.Kind), cmp.Compare(d.Type, o.Type),
		slices.Compare(d.Params, o.Params), strings.Compare(d.Name, o.Name))
}

// faces are what a global declaration is in the configurations in which it counts.
func (d *decl) faces() []Decl {
	types := d.typing
	types[0] = without(d.counts, d.any())
	var l []Decl
	for params, where := range d.paramLists() {
		for kind, cond := range types.within(where) {
			if !cond.Empty() {
				l = append(l, Decl{d.node.Kind, d.node.Text, d.node.Tok, uint8(kind), []uint8(params), cond})
			}
		}
	}
	return l
}

// paramLists are the types of the Params, a byte for each, where it counts.
func (d *decl) paramLists() shares[string] {
	lists := shares[string]{}
	lists.add("", d.counts)
	if d.node.Kind != api.Fn {
		return lists
	}
	for p := range kids(d.node, 0) {
		longer := shares[string]{}
		for params, where := range lists {
			longer.add(params, without(where, p.Cond))
			for kind, cond := range written(p, 0).within(where) {
				longer.add(params+string([]byte{uint8(kind)}), cond)
			}
		}
		lists = longer
	}
	return lists
}

// Calls returns which functions call which.
func Calls(t syntax.Tree, within diagram.D) ([]Edge, api.Errno) {
	if !syntax.Valid(t) {
		return nil, api.ErrArg
	}
	return examined(syntax.Restrict(t, within)).edges(), api.OK
}

func (p pair) compare(o pair) int {
	return cmp.Or(cmp.Compare(p.from, o.from), cmp.Compare(p.to, o.to))
}

func (c *checker) edges() []Edge {
	var l []Edge
	for _, p := range sorted(c.calls, pair.compare) {
		l = append(l, Edge{p.from, p.to, c.calls[p]})
	}
	return l
}

// Reached returns the functions that are called from main on.
func Reached(t syntax.Tree, within diagram.D) ([]Place, api.Errno) {
	if !syntax.Valid(t) {
		return nil, api.ErrArg
	}
	return places(examined(syntax.Restrict(t, within)).reached()), api.OK
}

// reached is where which Fn is called from main on.
func (c *checker) reached() shares[int] {
	reached := shares[int]{}
	var todo []int // those that are called in more configurations than when they were looked at
	for _, d := range c.globals.table[mainName] {
		if d.node.Kind == api.Fn {
			reached.add(d.node.Tok, d.counts)
			todo = append(todo, d.node.Tok)
		}
	}
	edges := c.edges()
follow:
	for len(todo) > 0 {
		from := todo[0]
		todo = todo[1:]
		first, _ := slices.BinarySearchFunc(edges, from, Edge.before)
		for _, e := range edges[first:] {
			if e.From != from {
				continue follow
			}
			if more := meet(e.Cond, reached[from]); !more.Within(reached[e.To]) {
				reached.add(e.To, more)
				todo = append(todo, e.To)
			}
		}
	}
	return reached
}

// before compares the function that calls.
func (e Edge) before(from int) int { return cmp.Compare(e.From, from) }

// Unused returns the declarations to which no use refers.
func Unused(t syntax.Tree, within diagram.D) ([]Place, api.Errno) {
	if !syntax.Valid(t) {
		return nil, api.ErrArg
	}
	return places(examined(syntax.Restrict(t, within)).unused()), api.OK
}

// unused is where which declaration has no use.
func (c *checker) unused() shares[int] {
	used := shares[int]{}
	for k, d := range c.facts {
		if k.kind == api.FactUse {
			used.add(k.other, d)
		}
	}
	unused := shares[int]{}
	for _, d := range c.decls {
		if !d.global || d.node.Text != mainName {
			unused.add(d.node.Tok, without(d.counts, used[d.node.Tok]))
		}
	}
	return unused
}

func places(s shares[int]) []Place {
	var l []Place
	for _, tok := range sorted(s, cmp.Compare[int]) {
		l = append(l, Place{tok, s[tok]})
	}
	return l
}
