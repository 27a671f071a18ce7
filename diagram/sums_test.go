package diagram_test

import (
	"math"
	"math/bits"
	"slices"
	"testing"

	"motley/api"
	"motley/diagram"
)

// P1.12

func TestBetween(t *testing.T) {
	bounds := []int{math.MinInt, -1 << 40, -2, -1, 0, 1, 2, 3, 4, 5, 6, 7, 24, 25, 1 << 40, math.MaxInt}
	for _, k := range []int{0, 1, 32, 37, 42, 63} {
		for _, low := range bounds {
			for _, high := range bounds {
				want := table(0)
				for c := range 64 {
					if n := bits.OnesCount(uint(c & k)); n >= low && n <= high {
						want |= 1 << c
					}
				}
				wantTable(t, "Between", diagram.Between(config(k), low, high), want)
				wantTable(t, "Between, high bits", diagram.Between(config(k)|0xff000000, low, high), want)
			}
		}
	}
}

func TestBetweenOfAllFeatures(t *testing.T) {
	total := uint64(0)
	for k := range 25 {
		n, e := diagram.Between(0xffffffff, k, k).Count(24)
		if e != api.OK {
			t.Errorf("Count: %v", e)
		}
		total += n
	}
	if n, _ := diagram.Between(every, 12, 12).Count(24); n != 2704156 || total != 1<<24 {
		t.Errorf("half of the features: %d; all numbers of features: %d", n, total)
	}
	if !diagram.Between(every, 0, 24).Full() || !diagram.Between(every, 25, 99).Empty() {
		t.Error("any number, or too many")
	}
}

var relations = []uint8{api.AtMost, api.AtLeast, api.Equal}

func holds(x int64, rel uint8, bound int64) bool {
	switch rel {
	case api.AtMost:
		return x <= bound
	case api.AtLeast:
		return x >= bound
	}
	return x == bound
}

func TestLinear(t *testing.T) {
	d := dice(31)
	for round := range 60 {
		costs := make([]int64, 24)
		for _, i := range places {
			costs[i] = int64(d.next()%7) - 3
			if round%3 == 0 {
				costs[i] = int64(d.next()%(2*api.MaxCost+1)) - api.MaxCost
			}
		}
		kept := slices.Clone(costs)
		for _, rel := range relations {
			bounds := []int64{0, 1, -1, math.MinInt64, math.MaxInt64, -1 << 40, 1 << 40, -1<<40 - 1, 1<<40 + 1}
			for range 4 {
				x := sum(costs, config(int(d.next()%64)))
				bounds = append(bounds, x-1, x, x+1)
			}
			for _, bound := range bounds {
				want := table(0)
				for k := range 64 {
					if holds(sum(costs, config(k)), rel, bound) {
						want |= 1 << k
					}
				}
				got, e := diagram.Linear(costs, rel, bound)
				if e != api.OK || !slices.Equal(costs, kept) {
					t.Errorf("Linear(%v, %d, %d): %v", costs, rel, bound, e)
				}
				wantTable(t, "Linear", got, want)
			}
		}
	}
}

func TestLinearOfAllFeatures(t *testing.T) {
	d := dice(5)
	for round := range 6 {
		costs := make([]int64, 24)
		for i := range costs {
			costs[i] = int64(d.next()%(2*api.MaxCost+1)) - api.MaxCost
		}
		bound := sum(costs, uint32(d.next()))
		if round == 0 {
			costs, bound = slices.Repeat([]int64{api.MaxCost}, 24), 24<<31
		}
		if round == 1 {
			costs, bound = slices.Repeat([]int64{-api.MaxCost}, 24), -24<<31
		}
		total := uint64(0)
		for _, x := range []struct {
			rel   uint8
			bound int64
		}{{api.AtMost, bound - 1}, {api.Equal, bound}, {api.AtLeast, bound + 1}} {
			a, e := diagram.Linear(costs, x.rel, x.bound)
			if e != api.OK {
				t.Errorf("Linear: %v", e)
			}
			n, _ := a.Count(24)
			total += n
			for range 20000 {
				c := uint32(d.next())
				if a.Has(c) != holds(sum(costs, c&every), x.rel, x.bound) {
					t.Errorf("%x: %d, %d", c, x.rel, x.bound)
					break
				}
			}
		}
		if total != 1<<24 {
			t.Errorf("less, equal and more: %d", total)
		}
	}
}

func TestLinearExamples(t *testing.T) {
	a, e := diagram.Linear([]int64{3, -1, 2}, api.AtMost, 2)
	if n, _ := a.Count(3); n != 5 || e != api.OK {
		t.Errorf("the example: %d, %v", n, e)
	}
	for _, rel := range relations {
		if a, e := diagram.Linear(nil, rel, 0); !a.Full() || e != api.OK {
			t.Errorf("no costs, 0: %v", e)
		}
	}
	if a, e := diagram.Linear(nil, api.AtLeast, 1); !a.Empty() || e != api.OK {
		t.Errorf("no costs, at least 1: %v", e)
	}
}

func TestLinearErrors(t *testing.T) {
	for _, costs := range badCosts() {
		for _, rel := range []uint8{api.AtMost, api.AtLeast, api.Equal, 0, 4} {
			if a, e := diagram.Linear(costs, rel, 0); !a.Same(diagram.D{}) || e != api.ErrArg {
				t.Errorf("Linear(%v, %d): %v", costs, rel, e)
			}
		}
	}
	for _, rel := range []uint8{0, 4, 5, 255} {
		if a, e := diagram.Linear([]int64{1}, rel, 0); !a.Same(diagram.D{}) || e != api.ErrArg {
			t.Errorf("Linear, relation %d: %v", rel, e)
		}
	}
}
