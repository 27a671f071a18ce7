package formula

import "motley/api"

// The functions of this file take any tree, valid or not. Such a tree may have more levels than calls can be
// nested; and as Kids are slices, a value may share nodes, or even have a node below itself. So these functions do
// not call themselves, and they remember nodes by their places in memory: each is gone through once.

// extent is how many nodes and levels a tree has.
type extent struct{ nodes, levels int }

// Size returns how many nodes a tree has, and how many levels.
func Size(e api.Expr) (nodes, levels int) {
	extents := map[*api.Expr]extent{}
	for todo := []*api.Expr{&e}; len(todo) > 0; {
		n := todo[len(todo)-1]
		if _, begun := extents[n]; begun { // so its kids are finished
			todo = todo[:len(todo)-1]
			extents[n] = extentWith(n.Kids, extents)
			continue
		}
		extents[n] = extent{}
		for k := range n.Kids {
			if _, begun := extents[&n.Kids[k]]; !begun {
				todo = append(todo, &n.Kids[k])
			}
		}
	}
	return extents[&e].nodes, extents[&e].levels
}

// extentWith is the extent of a node whose kids have these.
func extentWith(kids []api.Expr, extents map[*api.Expr]extent) extent {
	sum := extent{nodes: 1}
	for k := range kids {
		x := extents[&kids[k]]
		sum.nodes += x.nodes
		sum.levels = max(sum.levels, x.levels)
	}
	sum.levels++
	return sum
}

// Names returns the names in a tree, in the order of their first occurrence.
func Names(e api.Expr) []string {
	var l []string
	known := map[string]bool{}
	seen := map[*api.Expr]bool{}
	for todo := []*api.Expr{&e}; len(todo) > 0; {
		n := todo[len(todo)-1]
		todo = todo[:len(todo)-1]
		if seen[n] {
			continue
		}
		seen[n] = true
		if n.Op == api.OpName && !known[n.Name] {
			known[n.Name] = true
			l = append(l, n.Name)
		}
		for k := range n.Kids {
			todo = append(todo, &n.Kids[len(n.Kids)-1-k]) // the first kid is taken first
		}
	}
	return l
}

// pair is two nodes that stand at the same place in two trees.
type pair struct{ a, b *api.Expr }

func (p pair) alike() bool {
	return p.a.Op == p.b.Op && p.a.Name == p.b.Name && len(p.a.Kids) == len(p.b.Kids)
}

// Same reports whether two trees are equal.
func Same(a, b api.Expr) bool {
	seen := map[pair]bool{}
	for todo := []pair{{&a, &b}}; len(todo) > 0; {
		p := todo[len(todo)-1]
		todo = todo[:len(todo)-1]
		if seen[p] {
			continue
		}
		seen[p] = true
		if !p.alike() {
			return false
		}
		for k := range p.a.Kids {
			todo = append(todo, pair{&p.a.Kids[k], &p.b.Kids[k]})
		}
	}
	return true
}
