package syntax

import (
	"cmp"
	"maps"
	"slices"

	"motley/diagram"
)

// id is what tells the nodes of one list of tokens apart: a token is in the same kind of node only once in each
// configuration. The zero id is none.
type id struct {
	tok  int
	kind uint8
}

// link leads to a kid.
type link struct {
	slot int
	kid  id
}

func compareLinks(a, b link) int {
	return cmp.Or(cmp.Compare(a.slot, b.slot), cmp.Compare(a.kid.tok, b.kid.tok), cmp.Compare(a.kid.kind, b.kid.kind))
}

// graph has the kids of all nodes, each with the configurations in which it is one. A node that has different parents
// is there once; so a graph may have fewer nodes than its tree.
type graph map[id]shares[link]

// link adds a kid in some configurations.
func (g graph) link(parent id, slot int, kid id, d diagram.D) {
	if g[parent] == nil {
		g[parent] = shares[link]{}
	}
	g[parent].add(link{slot, kid}, d)
}

// branch is a node of a graph, in some configurations.
type branch struct {
	node id
	cond diagram.D
}

// nodes are the kids of the zero id in some configurations, with all that is below them.
func (g graph) nodes(d diagram.D, text func(id) string) []Node {
	sorted := map[id][]link{}
	for node, links := range g {
		sorted[node] = slices.SortedFunc(maps.Keys(links), compareLinks)
	}
	return build(branch{cond: d}, func(b branch) (l []Node, below []branch) {
		for _, k := range sorted[b.node] {
			if cond := meet(g[b.node][k], b.cond); !cond.Empty() {
				l = append(l, Node{Kind: k.kid.kind, Text: text(k.kid), Tok: k.kid.tok, Slot: k.slot, Cond: cond})
				below = append(below, branch{k.kid, cond})
			}
		}
		return l, below
	})
}
