package run

import (
	"math"

	"motley/diagram"
)

// choice is a number that configurations may have differently. It is a decision diagram: of a feature, it leads to low
// where that is not selected, and to high where it is; without a feature the number is the same everywhere. It is never
// changed.
//
// A set is a choice, too: the number is 1 in the configurations that it has, and 0 in the others.
type choice struct {
	feature   int
	low, high *choice
	number    int64
}

// noFeature is behind all features.
const noFeature = math.MaxInt

func same(number int64) *choice { return &choice{feature: noFeature, number: number} }

func truth(is bool) int64 {
	if is {
		return 1
	}
	return 0
}

func (c *choice) isSame() bool { return c.feature == noFeature }

func (c *choice) isEmpty() bool { return c.isSame() && c.number == 0 }

func (c *choice) isFull() bool { return c.isSame() && c.number != 0 }

// at is what the choice is where a feature is on or off, if it depends on none before that.
func (c *choice) at(feature int, on bool) *choice {
	switch {
	case c.feature != feature:
		return c
	case on:
		return c.high
	}
	return c.low
}

// choices makes choices. Those that are equal are one, as far as they are remembered: that keeps them small, but
// nothing else depends on it.
type choices struct{ known map[choice]*choice }

// mostKnown bounds what is remembered.
const mostKnown = 1 << 18

func newChoices() choices { return choices{map[choice]*choice{}} }

// node is a choice by a feature.
func (m *choices) node(feature int, low, high *choice) *choice {
	if low == high || low.isSame() && high.isSame() && low.number == high.number {
		return low
	}
	return m.only(&choice{feature: feature, low: m.only(low), high: m.only(high)})
}

func (m *choices) only(c *choice) *choice {
	if known, is := m.known[*c]; is {
		return known
	}
	if len(m.known) >= mostKnown {
		clear(m.known)
	}
	m.known[*c] = c
	return c
}

// set makes a choice of a set of configurations.
func (m *choices) set(d diagram.D) *choice { return diagram.Fold(d, same(0), same(1), m.node) }

// turn is a step on the way to a choice: what it is; or else a feature, and where the way goes on behind it.
type turn[K comparable] struct {
	is        *choice
	feature   int
	low, high K
}

// grow makes a choice from the top. Of each key look tells the turn that is taken there.
func grow[K comparable](m *choices, top K, look func(K) turn[K]) *choice {
	t := look(top)
	if t.is != nil {
		return t.is
	}
	made := map[K]*choice{}
	var visit func(K) *choice
	visit = func(k K) *choice {
		if c, is := made[k]; is {
			return c
		}
		t := look(k)
		if t.is == nil {
			t.is = m.node(t.feature, visit(t.low), visit(t.high))
		}
		made[k] = t.is
		return t.is
	}
	return m.node(t.feature, visit(t.low), visit(t.high))
}

// combine takes an operation to the numbers of two choices.
func (m *choices) combine(a, b *choice, op operation) *choice {
	return grow(m, [2]*choice{a, b}, func(k [2]*choice) turn[[2]*choice] {
		i := min(k[0].feature, k[1].feature)
		if i == noFeature {
			return turn[[2]*choice]{is: same(op(k[0].number, k[1].number))}
		}
		return turn[[2]*choice]{nil, i,
			[2]*choice{k[0].at(i, false), k[1].at(i, false)}, [2]*choice{k[0].at(i, true), k[1].at(i, true)}}
	})
}

// choose is a in the configurations of a set, and b in the others.
func (m *choices) choose(set, a, b *choice) *choice {
	return grow(m, [3]*choice{set, a, b}, func(k [3]*choice) turn[[3]*choice] {
		switch {
		case k[0].isFull() || k[1] == k[2]:
			return turn[[3]*choice]{is: k[1]}
		case k[0].isEmpty():
			return turn[[3]*choice]{is: k[2]}
		}
		i := min(k[0].feature, k[1].feature, k[2].feature)
		return turn[[3]*choice]{nil, i,
			[3]*choice{k[0].at(i, false), k[1].at(i, false), k[2].at(i, false)},
			[3]*choice{k[0].at(i, true), k[1].at(i, true), k[2].at(i, true)}}
	})
}

// narrow is as the choice is in the configurations of a set, and everywhere else as it is in one of these: so it does
// not depend on what tells the set from the others.
func (m *choices) narrow(c, set *choice) *choice {
	if set.isEmpty() {
		return c
	}
	return grow(m, [2]*choice{c, set}, func(k [2]*choice) turn[[2]*choice] {
		c, set := k[0], k[1]
		for !set.isSame() && set.feature <= c.feature && (set.low.isEmpty() || set.high.isEmpty()) {
			on := set.low.isEmpty()
			c, set = c.at(set.feature, on), set.at(set.feature, on)
		}
		if c.isSame() || set.isFull() {
			return turn[[2]*choice]{is: c}
		}
		i := min(c.feature, set.feature)
		return turn[[2]*choice]{nil, i,
			[2]*choice{c.at(i, false), set.at(i, false)}, [2]*choice{c.at(i, true), set.at(i, true)}}
	})
}

// meet is what both sets have.
func (m *choices) meet(a, b *choice) *choice {
	if a == b || b.isFull() {
		return a
	}
	return m.choose(a, b, same(0))
}

// union is what one of both sets has.
func (m *choices) union(a, b *choice) *choice {
	if a == b || b.isEmpty() {
		return a
	}
	return m.choose(a, same(1), b)
}

// without is what a has and b has not.
func (m *choices) without(a, b *choice) *choice {
	if b.isEmpty() {
		return a
	}
	return m.choose(b, same(0), a)
}

// conditions are the configurations that have each number.
func (c *choice) conditions() map[int64]diagram.D {
	made := map[*choice]map[int64]diagram.D{}
	var visit func(*choice) map[int64]diagram.D
	visit = func(c *choice) map[int64]diagram.D {
		if l, is := made[c]; is {
			return l
		}
		l := map[int64]diagram.D{}
		if c.isSame() {
			l[c.number] = diagram.True()
		} else {
			on := diagram.Cube(1<<c.feature, 0)
			for number, d := range visit(c.low) {
				l[number] = on.Ite(diagram.False(), d)
			}
			for number, d := range visit(c.high) {
				l[number] = on.Ite(d, l[number])
			}
		}
		made[c] = l
		return l
	}
	return visit(c)
}
