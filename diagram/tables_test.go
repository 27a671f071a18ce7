package diagram_test

import (
	"math/bits"
	"slices"
	"testing"

	"motley/api"
	"motley/diagram"
)

// The sets of these tests depend on six features, so that a set is a table of 64 bits, and the operations on sets
// are those on numbers. The features are far apart: neighbours in a diagram need not be neighbours in number.

const every = 1<<24 - 1

var places = [6]int{0, 1, 2, 9, 22, 23}

const placeMask = 1<<0 | 1<<1 | 1<<2 | 1<<9 | 1<<22 | 1<<23

// table has the bit k if the set has config(k).
type table uint64

// config selects the feature places[j] for each bit j of k.
func config(k int) uint32 {
	c := uint32(0)
	for j, i := range places {
		c |= uint32(k>>j&1) << i
	}
	return c
}

// fix is the table with a feature (an index of places) fixed.
func (t table) fix(j int, on bool) table {
	got := table(0)
	for k := range 64 {
		from := k &^ (1 << j)
		if on {
			from |= 1 << j
		}
		got |= t >> from & 1 << k
	}
	return got
}

func (t table) depends(j int) bool { return t.fix(j, false) != t.fix(j, true) }

func (t table) count() int { return bits.OnesCount64(uint64(t)) }

// set makes the set of a table, one configuration after the other.
func (t table) set() diagram.D {
	d := diagram.False()
	for k := range 64 {
		if t>>k&1 == 1 {
			d = d.Or(diagram.Cube(config(k), placeMask&^config(k)))
		}
	}
	return d
}

// tableOf asks a set for each configuration.
func tableOf(d diagram.D, others uint32) table {
	t := table(0)
	for k := range 64 {
		if d.Has(config(k) | others&^placeMask) {
			t |= 1 << k
		}
	}
	return t
}

// wantTable fails if the set is not that of the table.
func wantTable(t *testing.T, what string, d diagram.D, want table) {
	t.Helper()
	for _, others := range []uint32{0, 0xffffffff, 0x00555555, 0xff000000} {
		if got := tableOf(d, others); got != want {
			t.Errorf("%s: %016x, want %016x (other features %08x)", what, uint64(got), uint64(want), others)
			return
		}
	}
	wantNodes(t, what, d, want)
}

// wantNodes fails if the nodes of the set are not those of the table, found by going through it as the chapter says.
func wantNodes(t *testing.T, what string, d diagram.D, want table) {
	t.Helper()
	list, root := want.nodes()
	got, place := d.Nodes()
	if !slices.Equal(got, list) || place != root || d.Size() != len(list) {
		t.Errorf("%s: nodes %v, %d, want %v, %d", what, got, place, list, root)
	}
}

func (t table) nodes() ([]api.Decision, int) {
	var l []api.Decision
	finished := map[table]int{0: 0, ^table(0): 1}
	var visit func(t table) int
	visit = func(t table) int {
		if k, is := finished[t]; is {
			return k
		}
		j := 0
		for !t.depends(j) {
			j++
		}
		low := visit(t.fix(j, false))
		high := visit(t.fix(j, true))
		l = append(l, api.Decision{Var: places[j], Low: low, High: high})
		finished[t] = len(l) + 1
		return len(l) + 1
	}
	return l, visit(t)
}

// dice gives numbers that look like chance, the same ones in each run.
type dice uint64

func (d *dice) next() uint64 {
	*d ^= *d << 13
	*d ^= *d >> 7
	*d ^= *d << 17
	return uint64(*d)
}

// tables are the sets of the tests: special ones, and others that are sparse, dense, or depend on few features.
func tables(more int) []table {
	l := []table{0, ^table(0), 1, 1 << 63, 0xaaaaaaaaaaaaaaaa, 0xffffffff00000000, 0x6996966996696996, 0xfee8e880fee8e880}
	d := dice(88172645463325252)
	for k := range more {
		t := table(d.next())
		switch k % 4 {
		case 1:
			t &= table(d.next()) & table(d.next())
		case 2:
			t |= table(d.next()) | table(d.next())
		case 3:
			t = t.fix(int(d.next()%6), true).fix(int(d.next()%6), false)
		}
		l = append(l, t)
	}
	return l
}

func variable(t *testing.T, i int) diagram.D {
	t.Helper()
	d, e := diagram.Var(i)
	if e != api.OK {
		t.Fatalf("Var(%d): %v", i, e)
	}
	return d
}
