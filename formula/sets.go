package formula

import (
	"slices"

	"motley/api"
	"motley/diagram"
)

// Of returns a formula of a set.
func Of(d diagram.D, names []string) (api.Expr, api.Errno) {
	if err := checkNames(names); err != api.OK {
		return api.Expr{}, err
	}
	if d.Support()>>len(names) != 0 {
		return api.Expr{}, api.ErrArg
	}
	join := func(i int, low, high api.Expr) api.Expr {
		return chosen(api.Expr{Op: api.OpName, Name: names[i]}, high, low)
	}
	e := diagram.Fold(d, node(api.OpFalse), node(api.OpTrue), join) // shares the formula of a node that occurs often
	if !Valid(e) {
		return api.Expr{}, api.ErrLimit
	}
	return fresh(e), api.OK
}

// chosen is the formula of a set that is high where x is true, and otherwise low.
func chosen(x, high, low api.Expr) api.Expr {
	not := node(api.OpNot, x)
	switch {
	case high.Op == api.OpTrue && low.Op == api.OpFalse:
		return x
	case high.Op == api.OpFalse && low.Op == api.OpTrue:
		return not
	case low.Op == api.OpFalse:
		return node(api.OpAnd, x, high)
	case high.Op == api.OpTrue:
		return node(api.OpOr, x, low)
	case high.Op == api.OpFalse:
		return node(api.OpAnd, not, low)
	case low.Op == api.OpTrue:
		return node(api.OpOr, not, high)
	}
	return node(api.OpChoice, x, high, low)
}

// Clauses returns one clause for each path of a set to the empty set.
func Clauses(d diagram.D) ([][]int, api.Errno) {
	nodes, root := d.Nodes()
	p := paths{nodes: nodes}
	if !p.follow(root) {
		return nil, api.ErrLimit
	}
	return p.clauses, api.OK
}

// The places of the sets that are no nodes, and of the first node.
const (
	emptyPlace = iota
	fullPlace
	firstPlace
)

// paths goes through a diagram.
type paths struct {
	nodes   []api.Decision
	path    []int // the literals that are false on the way to here
	clauses [][]int
}

// follow finds the paths from a place to the empty set, and reports whether there are not too many.
func (p *paths) follow(place int) bool {
	switch place {
	case emptyPlace:
		p.clauses = append(p.clauses, slices.Clone(p.path))
		return len(p.clauses) <= api.MaxClauses
	case fullPlace:
		return true
	}
	n := p.nodes[place-firstPlace]
	return p.step(n.Var+1, n.Low) && p.step(-(n.Var+1), n.High)
}

func (p *paths) step(literal, place int) bool {
	p.path = append(p.path, literal)
	few := p.follow(place)
	p.path = p.path[:len(p.path)-1]
	return few
}
