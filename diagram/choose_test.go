package diagram_test

import (
	"cmp"
	"math/bits"
	"slices"
	"testing"

	"motley/api"
	"motley/diagram"
)

// low makes a set of configurations below 64: the table's features are 0 to 5, and no other one is selected.
func low(t table) diagram.D {
	d := diagram.False()
	for k := range 64 {
		if t>>k&1 == 1 {
			d = d.Or(diagram.Cube(uint32(k), every&^uint32(k)))
		}
	}
	return d
}

// P1.8

func TestCount(t *testing.T) {
	for _, x := range tables(60) {
		want := uint64(x.count()) << 18
		if n, e := x.set().Count(24); n != want || e != api.OK {
			t.Errorf("Count(24) of %016x: %d, %v, want %d", uint64(x), n, e, want)
		}
		open := low(x).Exists(every &^ 63)
		for n := 6; n <= 24; n++ {
			if got, e := open.Count(n); got != uint64(x.count())<<(n-6) || e != api.OK {
				t.Errorf("Count(%d) of %016x: %d, %v", n, uint64(x), got, e)
			}
		}
	}
	for n := range 25 {
		if got, e := diagram.True().Count(n); got != 1<<n || e != api.OK {
			t.Errorf("Count(%d) of all: %d, %v", n, got, e)
		}
		if got, e := diagram.False().Count(n); got != 0 || e != api.OK {
			t.Errorf("Count(%d) of none: %d, %v", n, got, e)
		}
	}
}

func TestCountErrors(t *testing.T) {
	for i := range 24 {
		d := variable(t, i)
		for n := -1; n <= 25; n++ {
			want := api.OK
			switch {
			case n < 0 || n > 24:
				want = api.ErrRange
			case n <= i:
				want = api.ErrArg
			}
			got, e := d.Count(n)
			if e != want || e != api.OK && got != 0 {
				t.Errorf("Count(%d) of the feature %d: %d, %v, want %v", n, i, got, e, want)
			}
		}
	}
	for _, n := range []int{-1, 25, 1 << 40, -1 << 40} {
		if got, e := diagram.True().Count(n); got != 0 || e != api.ErrRange {
			t.Errorf("Count(%d) of all: %d, %v", n, got, e)
		}
	}
}

// P1.15

func TestCountsAddUp(t *testing.T) {
	l := tables(20)
	count := func(d diagram.D) uint64 {
		n, e := d.Count(24)
		if e != api.OK {
			t.Errorf("Count: %v", e)
		}
		return n
	}
	for _, x := range l {
		a := x.set()
		if count(a)+count(a.Not()) != 1<<24 {
			t.Errorf("%016x and its complement", uint64(x))
		}
		for _, y := range l {
			b := y.set()
			if count(a.Or(b))+count(a.And(b)) != count(a)+count(b) {
				t.Errorf("union and intersection of %016x and %016x", uint64(x), uint64(y))
			}
		}
	}
}

// P1.9

// first is the first of the configurations below 64 that is cheapest; 64 if there is none.
func (t table) first(cost func(c uint32) int64) uint32 {
	best := uint32(64)
	for c := range uint32(64) {
		if t>>c&1 == 1 && (best == 64 || cost(c) < cost(best)) {
			best = c
		}
	}
	return best
}

func TestLeastSmallestNearest(t *testing.T) {
	d := dice(99)
	for _, x := range append(tables(80), 1<<3|1<<5|1<<6, 1<<6|1<<8, 1<<7|1<<16, 1<<24|1<<40) {
		a := low(x)
		want := func(what string, c uint32, is bool, cost func(c uint32) int64) {
			best := x.first(cost)
			if x == 0 && (c != 0 || is) || x != 0 && (c != best || !is) {
				t.Errorf("%s of %016x: %d, %t, want %d", what, uint64(x), c, is, best)
			}
		}
		c, is := a.Least()
		want("Least", c, is, func(uint32) int64 { return 0 })
		c, is = a.Smallest()
		want("Smallest", c, is, func(c uint32) int64 { return int64(bits.OnesCount32(c)) })
		for range 8 {
			to := uint32(d.next())
			c, is = a.Nearest(to)
			want("Nearest", c, is, func(c uint32) int64 { return int64(bits.OnesCount32((c ^ to) & every)) })
		}
	}
}

func TestChoicesWithOpenFeatures(t *testing.T) {
	all := diagram.True()
	if c, is := all.Least(); c != 0 || !is {
		t.Errorf("Least of all: %x, %t", c, is)
	}
	if c, is := all.Smallest(); c != 0 || !is {
		t.Errorf("Smallest of all: %x, %t", c, is)
	}
	for _, c := range []uint32{0, 0x123456, 0xff123456, 0xffffffff} {
		if got, is := all.Nearest(c); got != c&every || !is {
			t.Errorf("Nearest(%x) of all: %x, %t", c, got, is)
		}
		if got, is := diagram.Cube(1<<4, 1<<5).Nearest(c); got != (c|1<<4)&every&^(1<<5) || !is {
			t.Errorf("Nearest(%x) of a cube: %x, %t", c, got, is)
		}
	}
	if c, is := variable(t, 3).Xor(variable(t, 20)).Least(); c != 8 || !is {
		t.Errorf("Least: %x, %t", c, is)
	}
	if c, is := variable(t, 20).Or(diagram.Cube(3, 0)).Smallest(); c != 1<<20 || !is {
		t.Errorf("Smallest: %x, %t", c, is)
	}
}

func TestCheapest(t *testing.T) {
	d := dice(7)
	for k, x := range append(tables(80), 1<<3|1<<5|1<<6, 1<<5|1<<6) {
		costs := make([]int64, 1+k%24)
		for i := range costs {
			costs[i] = int64(d.next()%5) - 2
		}
		if k%3 == 0 {
			for i := range costs {
				costs[i] = int64(d.next()%(2*api.MaxCost+1)) - api.MaxCost
			}
		}
		kept := slices.Clone(costs)
		c, cost, e := low(x).Cheapest(costs)
		if !slices.Equal(costs, kept) {
			t.Error("the costs are changed")
		}
		best := x.first(func(c uint32) int64 { return sum(costs, c) })
		switch {
		case x == 0:
			if c != 0 || cost != 0 || e != api.ErrNone {
				t.Errorf("Cheapest of the empty set: %d, %d, %v", c, cost, e)
			}
		case c != best || cost != sum(costs, best) || e != api.OK:
			t.Errorf("Cheapest(%v) of %016x: %d, %d, %v, want %d", costs, uint64(x), c, cost, e, best)
		}
	}
}

func sum(costs []int64, c uint32) int64 {
	n := int64(0)
	for i, x := range costs {
		n += x * int64(c>>i&1)
	}
	return n
}

func TestCheapestWithOpenFeatures(t *testing.T) {
	most := slices.Repeat([]int64{api.MaxCost}, 24)
	least := slices.Repeat([]int64{-api.MaxCost}, 24)
	cases := []struct {
		name  string
		a     diagram.D
		costs []int64
		c     uint32
		cost  int64
	}{
		{"the example", diagram.True(), []int64{3, -1, 2}, 2, -1},
		{"no costs", diagram.True(), nil, 0, 0},
		{"zeros", diagram.True(), make([]int64, 24), 0, 0},
		{"all gain", diagram.True(), least, every, -24 << 31},
		{"all cost", diagram.True(), most, 0, 0},
		{"one gain is left out", diagram.Cube(0, 1<<7), least, every &^ (1 << 7), -23 << 31},
		{"one cost is needed", diagram.Cube(1<<7, 0), most, 1 << 7, 1 << 31},
		{"all costs are needed", diagram.Cube(every, 0), most, every, 24 << 31},
		{"as cheap, but less", variable(t, 1).Xor(variable(t, 2)), []int64{0, 5, 5}, 2, 5},
		{"a gain is given up", variable(t, 0).Xor(variable(t, 1)), []int64{-3, -2, 0, -1}, 9, -4},
	}
	for _, x := range cases {
		if c, cost, e := x.a.Cheapest(x.costs); c != x.c || cost != x.cost || e != api.OK {
			t.Errorf("%s: %x, %d, %v, want %x, %d", x.name, c, cost, e, x.c, x.cost)
		}
	}
}

// badCosts are lists of costs that are not valid.
func badCosts() [][]int64 {
	return [][]int64{
		make([]int64, 25),
		{api.MaxCost + 1},
		{-api.MaxCost - 1},
		append(make([]int64, 23), api.MaxCost+1),
		{0, -1 << 63},
		{1<<63 - 1},
	}
}

func TestCheapestErrors(t *testing.T) {
	for _, costs := range badCosts() {
		for _, a := range []diagram.D{diagram.True(), diagram.False(), chapter(t)} {
			if c, cost, e := a.Cheapest(costs); c != 0 || cost != 0 || e != api.ErrArg {
				t.Errorf("Cheapest(%v): %d, %d, %v", costs, c, cost, e)
			}
		}
	}
	if c, cost, e := diagram.False().Cheapest([]int64{-1}); c != 0 || cost != 0 || e != api.ErrNone {
		t.Errorf("Cheapest of the empty set: %d, %d, %v", c, cost, e)
	}
}

// P1.10

func TestAll(t *testing.T) {
	for k, x := range tables(40) {
		a := low(x).Exists(every &^ 63)
		for _, n := range []int{-1 << 40, -1, 0, 1, 3, 5, 6, 9, 12} {
			var want []uint32
			for c := range uint32(1) << max(n, 0) {
				if x>>(c&63)&1 == 1 {
					want = append(want, c)
				}
			}
			if got := slices.Collect(a.All(n)); !slices.Equal(got, want) {
				t.Errorf("All(%d) of the table %d: %v, want %v", n, k, got, want)
			}
		}
	}
}

func TestAllLeavesHighFeaturesOff(t *testing.T) {
	for n := range 26 {
		got := slices.Collect(diagram.Cube(1<<11, every&^(1<<11|1<<2)).All(n))
		want := []uint32{1 << 11, 1<<11 | 1<<2}
		if n < 12 {
			want = nil
		}
		if !slices.Equal(got, want) {
			t.Errorf("All(%d): %v, want %v", n, got, want)
		}
	}
	if got := slices.Collect(variable(t, 5).Not().All(1)); !slices.Equal(got, []uint32{0, 1}) {
		t.Errorf("All(1): %v", got)
	}
}

func TestAllOfManyFeatures(t *testing.T) {
	for _, n := range []int{24, 25, 1 << 40} {
		odd := diagram.False()
		for i := range 24 {
			if i%3 == 0 {
				odd = odd.Xor(variable(t, i))
			}
		}
		next, count := uint32(0), 0
		for c := range odd.All(n) {
			for bits.OnesCount32(next&0x249249)%2 == 0 {
				next++
			}
			if c != next {
				t.Fatalf("All(%d): %x, want %x", n, c, next)
			}
			next++
			count++
		}
		if count != 1<<23 {
			t.Errorf("All(%d): %d configurations", n, count)
		}
	}
}

func TestAllEndedEarly(t *testing.T) {
	all := chapter(t).All(14)
	whole := slices.Collect(all)
	if len(whole) != 5<<11 || !slices.IsSortedFunc(whole, cmp.Compare[uint32]) {
		t.Fatalf("All: %d configurations", len(whole))
	}
	for _, end := range []int{0, 1, 7, 2000, len(whole) - 1} {
		var got []uint32
		for c := range all {
			got = append(got, c)
			if len(got) > end {
				break
			}
		}
		if !slices.Equal(got, whole[:end+1]) {
			t.Errorf("ended after %d: %d configurations", end, len(got))
		}
		if again := slices.Collect(all); !slices.Equal(again, whole) {
			t.Errorf("run again: %d configurations", len(again))
		}
	}
	var outer []uint32
	for c := range chapter(t).All(3) {
		outer = append(outer, c)
		if inner := slices.Collect(all); !slices.Equal(inner, whole) {
			t.Error("a run within a run")
		}
	}
	if !slices.Equal(outer, []uint32{3, 4, 5, 6, 7}) {
		t.Errorf("All(3): %v", outer)
	}
}
