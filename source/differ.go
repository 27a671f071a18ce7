package source

import (
	"maps"
	"slices"

	"motley/diagram"
)

// Differ returns the configurations in which two lists do not have the same tokens in kind and text.
func Differ(a, b List, within diagram.D) diagram.D {
	g := comparison{a: a.Tokens, b: b.Tokens, next: map[int]diagram.D{0: within}}
	for i := range len(a.Tokens) + 1 {
		g.i = i
		g.row, g.next = g.next, map[int]diagram.D{}
		g.compareRow()
	}
	return g.found
}

// comparison goes through two lists side by side. It has the configurations that come to each pair of an index in a
// and an index in b, having had the same tokens before.
type comparison struct {
	a, b      []Token
	i         int               // the index in a that it has come to
	row, next map[int]diagram.D // for this index, and for the one behind it: by the index in b
	found     diagram.D
}

// compareRow looks at the pairs with the index in a that it has come to. What is added to them meanwhile is added
// directly behind the pair that is looked at.
func (g *comparison) compareRow() {
	for _, first := range slices.Sorted(maps.Keys(g.row)) {
		for j := first; !g.row[j].Empty(); j++ {
			d := g.row[j]
			g.row[j] = diagram.False()
			g.comparePair(j, d)
		}
	}
}

// comparePair sends configurations on from a pair: past tokens that they do not have, and past those that are the
// same. (Behind the end of a list there is a token that none has.)
func (g *comparison) comparePair(j int, d diagram.D) {
	a, b := tokenAt(g.a, g.i), tokenAt(g.b, j)
	equal := a.Kind == b.Kind && a.Text == b.Text
	if equal && a.Cond.Same(b.Cond) {
		g.send(g.i+1, j+1, d)
		return
	}
	inA, notA := d.And(a.Cond), without(d, a.Cond)
	onlyA, onlyB := without(inA, b.Cond), notA.And(b.Cond)
	g.send(g.i+1, j+1, without(notA, b.Cond))
	if both := inA.And(b.Cond); equal {
		g.send(g.i+1, j+1, both)
	} else {
		g.find(both)
	}
	if j == len(g.b) {
		g.find(onlyA)
	} else {
		g.send(g.i, j+1, onlyA)
	}
	if g.i == len(g.a) {
		g.find(onlyB)
	} else {
		g.send(g.i+1, j, onlyB)
	}
}

func tokenAt(l []Token, k int) Token {
	if k < len(l) {
		return l[k]
	}
	return Token{}
}

// find adds configurations in which the lists differ.
func (g *comparison) find(d diagram.D) { g.found = g.found.Or(d) }

// send lets configurations come to a pair, unless it is behind both lists. One list may have ended before the other.
func (g *comparison) send(i, j int, d diagram.D) {
	i, j = min(i, len(g.a)), min(j, len(g.b))
	switch {
	case d.Empty() || i == len(g.a) && j == len(g.b):
	case i == g.i:
		g.row[j] = g.row[j].Or(d)
	default:
		g.next[j] = g.next[j].Or(d)
	}
}
