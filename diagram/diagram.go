// Package diagram is layer 1: sets of configurations, kept as reduced ordered binary decision diagrams.
package diagram

import (
	"iter"
	"math/bits"

	"motley/api"
)

const (
	featureCount = api.MaxFeatures
	every        = uint32(1)<<featureCount - 1
)

// The places of the two sets that are no nodes, and of the first node of a list.
const (
	emptyPlace uint32 = 0
	fullPlace  uint32 = 1
	firstPlace uint32 = 2
)

// The bytes of a node: its feature, the place of its low child, and that of its high child.
const (
	lowByte   = 1
	highByte  = lowByte + 3
	nodeBytes = highByte + 3
)

// D is a set of configurations. The zero D is the empty set.
//
// The nodes stand in the order of Nodes, and nothing else is kept: so equal sets are equal as values of Go, and a
// D can be the key of a map. They are in a string because that cannot be changed.
type D struct {
	place uint32
	nodes string
}

// node is a feature and the places of its children.
type node struct {
	feature   uint8
	low, high uint32
}

// at returns the node at a place. The empty and the full set have a feature behind all others, and lead to
// themselves: so a walk down the diagram needs no case for them.
func (a D) at(place uint32) node {
	if place < firstPlace {
		return node{featureCount, place, place}
	}
	s := a.nodes[(place-firstPlace)*nodeBytes:][:nodeBytes]
	return node{s[0], readPlace(s[lowByte:]), readPlace(s[highByte:])}
}

// size is the number of nodes.
func (a D) size() uint32 { return uint32(len(a.nodes) / nodeBytes) }

// appendPlace writes a place in three bytes. That is enough: a diagram of 24 features has fewer than 2^21 nodes,
// for at most 2^20 nodes have one of the first 20 features, and the other four give fewer than 2^16 sets.
func appendPlace(b []byte, p uint32) []byte { return append(b, byte(p), byte(p>>8), byte(p>>16)) }

func readPlace(s string) uint32 { return uint32(s[0]) | uint32(s[1])<<8 | uint32(s[2])<<16 }

// members yields the features of a set of features, rising.
func members(set uint32) iter.Seq[int] {
	return func(yield func(int) bool) {
		for rest := set & every; rest != 0; rest &= rest - 1 {
			if !yield(bits.TrailingZeros32(rest)) {
				return
			}
		}
	}
}
