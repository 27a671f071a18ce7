package run

import (
	"testing"

	"motley/diagram"
)

// The choices of this test depend on the features below few.
const few = 5

// chance gives numbers that look like chance, the same ones in each run.
type chance uint64

func (x *chance) roll(n int) int {
	*x = *x*6364136223846793005 + 1442695040888963407
	return int(*x >> 33 % chance(n))
}

// listed are the numbers that the configurations of the first features have.
func (c *choice) listed() (l [1 << few]int64) {
	for x := range l {
		at := c
		for !at.isSame() {
			at = at.at(at.feature, x>>at.feature&1 == 1)
		}
		l[x] = at.number
	}
	return l
}

// some is a choice of numbers below n.
func (x *chance) some(m *choices, n int) *choice {
	var grow func(feature int) *choice
	grow = func(feature int) *choice {
		if feature == few || x.roll(6) == 0 {
			return same(int64(x.roll(n)))
		}
		return m.node(feature, grow(feature+1), grow(feature+1))
	}
	return grow(0)
}

// isReduced reports whether no choice has the same kids, and none is twice in it.
func isReduced(c *choice, seen map[choice]*choice) bool {
	if old, is := seen[*c]; is {
		return old == c
	}
	seen[*c] = c
	return c.isSame() || c.low != c.high && c.feature < c.low.feature && c.feature < c.high.feature &&
		isReduced(c.low, seen) && isReduced(c.high, seen)
}

func eachChoice(t *testing.T, forget bool, try func(m *choices, a, b, set *choice)) {
	x := chance(1)
	m := newChoices()
	for range 600 {
		a, b, set := x.some(&m, 3), x.some(&m, 3), x.some(&m, 2)
		if forget {
			clear(m.known)
		}
		try(&m, a, b, set)
	}
}

func TestCombine(t *testing.T) {
	eachChoice(t, false, func(m *choices, a, b, set *choice) {
		c := m.combine(a, b, func(x, y int64) int64 { return x - 2*y })
		d := m.choose(set, a, b)
		if !isReduced(c, map[choice]*choice{}) || !isReduced(d, map[choice]*choice{}) {
			t.Fatal("not reduced")
		}
		for x, n := range c.listed() {
			if n != a.listed()[x]-2*b.listed()[x] {
				t.Fatalf("combine: %d: %d", x, n)
			}
			want := b.listed()[x]
			if set.listed()[x] == 1 {
				want = a.listed()[x]
			}
			if d.listed()[x] != want {
				t.Fatalf("choose: %d: %d, want %d", x, d.listed()[x], want)
			}
		}
	})
}

func TestNarrow(t *testing.T) {
	eachChoice(t, false, func(m *choices, a, _, set *choice) {
		c := m.narrow(a, set)
		if !isReduced(c, map[choice]*choice{}) {
			t.Fatal("not reduced")
		}
		there := map[int64]bool{}
		for x, is := range set.listed() {
			if is == 1 {
				there[a.listed()[x]] = true
				if c.listed()[x] != a.listed()[x] {
					t.Fatalf("%d: %d, want %d", x, c.listed()[x], a.listed()[x])
				}
			}
		}
		for x, n := range c.listed() {
			if !there[n] && !set.isEmpty() {
				t.Fatalf("%d: %d is not in the set", x, n)
			}
		}
		if len(there) == 1 && !c.isSame() {
			t.Fatal("it depends on what is outside of the set")
		}
	})
}

func TestSets(t *testing.T) {
	eachChoice(t, false, func(m *choices, _, _, set *choice) {
		d := set.conditions()[1]
		if !set.conditions()[0].Same(d.Not()) {
			t.Fatal("the conditions are no partition")
		}
		if m.set(d) != set && !set.isSame() || m.set(d).listed() != set.listed() {
			t.Fatal("there and back")
		}
		for x, n := range set.listed() {
			if d.Has(uint32(x)) != (n == 1) {
				t.Fatal("conditions:", x, n)
			}
		}
	})
	m := newChoices()
	a, b := m.set(diagram.Cube(1, 0)), m.set(diagram.Cube(2, 0))
	for want, got := range map[diagram.D]*choice{
		diagram.Cube(3, 0):                        m.meet(a, b),
		diagram.Cube(1, 2):                        m.without(a, b),
		diagram.Cube(1, 0).Or(diagram.Cube(2, 0)): m.union(a, b),
		diagram.Cube(1, 0):                        m.meet(a, a),
		diagram.Cube(2, 0):                        m.union(b, m.meet(b, a)),
		diagram.False():                           m.without(a, a),
		diagram.True():                            m.union(a, m.without(same(1), a)),
	} {
		if !got.conditions()[1].Same(want) {
			t.Error(got.conditions(), want)
		}
	}
}

// What is forgotten makes choices greater, but no others.
func TestForgotten(t *testing.T) {
	eachChoice(t, true, func(m *choices, a, b, set *choice) {
		c := m.choose(set, m.combine(a, b, func(x, y int64) int64 { return x * y }), m.narrow(a, set))
		clear(m.known)
		zero := m.combine(c, c, func(x, y int64) int64 { return x - y })
		if !zero.isEmpty() {
			t.Fatal("not empty")
		}
		for x, is := range set.listed() {
			if is == 1 && c.listed()[x] != a.listed()[x]*b.listed()[x] {
				t.Fatal("combine:", x)
			}
		}
	})
	m := newChoices()
	for k := range int64(3 * mostKnown) {
		m.node(0, same(k), same(-1))
	}
	if len(m.known) > mostKnown {
		t.Error("known:", len(m.known))
	}
}
