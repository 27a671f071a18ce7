package syntax

import (
	"iter"
	"slices"
	"strconv"

	"motley/api"
	"motley/diagram"
	"motley/source"
)

// each yields all nodes below some kids, themselves included, each with its path. Both are valid only until the next
// one.
func each(kids []Node) iter.Seq2[[]int, *Node] {
	return func(yield func([]int, *Node) bool) {
		path, lists := []int{0}, [][]Node{kids} // the lists are those through which the path goes
		for len(path) > 0 {
			last := len(path) - 1
			if path[last] == len(lists[last]) {
				path, lists = path[:last], lists[:last]
				if last > 0 {
					path[last-1]++
				}
				continue
			}
			n := &lists[last][path[last]]
			if !yield(path, n) {
				return
			}
			path, lists = append(path, 0), append(lists, n.Kids)
		}
	}
}

// copied is the node as new memory.
func (n Node) copied() Node { return changed([]Node{n}, asIs)[0] }

// Walk yields all nodes, each with its path.
func Walk(t Tree) iter.Seq2[[]int, Node] {
	return func(yield func([]int, Node) bool) {
		for path, n := range each(t.kids()) {
			if !yield(slices.Clone(path), n.copied()) {
				return
			}
		}
	}
}

// At returns the node with a path.
func At(t Tree, path []int) (Node, api.Errno) {
	var n Node
	kids := t.kids()
	for _, k := range path {
		if k < 0 || k >= len(kids) {
			return Node{}, api.ErrNone
		}
		n, kids = kids[k], kids[k].Kids
	}
	if len(path) == 0 {
		return Node{}, api.ErrNone
	}
	return n.copied(), api.OK
}

// Size returns how many nodes there are, and how many levels.
func Size(t Tree) (nodes, levels int) {
	for path := range each(t.kids()) {
		nodes++
		levels = max(levels, len(path))
	}
	return nodes, levels
}

// Variants returns the places at which configurations differ.
func Variants(t Tree) ([]Variant, api.Errno) {
	if !Valid(t) {
		return nil, api.ErrArg
	}
	var l []Variant
	for path, n := range each(t.Kids) {
		for k := range mostSlots {
			if conds := n.conds(k); slices.ContainsFunc(conds, n.differs) {
				l = append(l, Variant{slices.Clone(path), k, conds})
			}
		}
	}
	return l, api.OK
}

func (n Node) differs(d diagram.D) bool { return !d.Same(n.Cond) }

// conds are the conditions of the kids in a slot.
func (n Node) conds(slot int) []diagram.D {
	var l []diagram.D
	for _, kid := range n.Kids {
		if kid.Slot == slot {
			l = append(l, kid.Cond)
		}
	}
	return l
}

// Like returns in which configurations in within two trees have the same program but for the Toks, or both have none.
func Like(a, b Tree, within diagram.D) (diagram.D, api.Errno) {
	if !Valid(a) || !Valid(b) {
		return diagram.D{}, api.ErrArg
	}
	return without(within, source.Differ(outline(a), outline(b), within)), api.OK
}

// outline is a list with a token for each node: what it is, and on which level. In the order of Walk that tells the
// whole tree.
func outline(t Tree) source.List {
	var l source.List
	for path, n := range each(t.Kids) {
		text := strconv.Itoa(len(path)) + " " + strconv.Itoa(n.Slot) + " " + n.Text
		l.Tokens = append(l.Tokens, source.Token{Kind: n.Kind, Text: text, Cond: n.Cond})
	}
	return l
}
