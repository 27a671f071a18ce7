package model_test

import (
	"slices"
	"testing"

	"motley/api"
	"motley/diagram"
	"motley/formula"
	"motley/model"
)

// P3.9

func TestCost(t *testing.T) {
	for _, m := range models(t, 100) {
		n := len(m.Features)
		for k, a := range m.Attributes {
			for c := range uint32(1) << n {
				for _, more := range []uint32{0, 1 << n, ^uint32(0) << n} {
					if x, e := model.Cost(m, k, c|more); x != sumOf(a, c) || e != api.OK {
						t.Errorf("Cost(%d, %b): %d, %v for %s", k, c|more, x, e, shaped(m))
					}
				}
			}
		}
	}
}

func TestCheapest(t *testing.T) {
	if c, cost, e := model.Cheapest(parsed(t, phone), 0); c != 11 || cost != 0 || e != api.OK {
		t.Errorf("Cheapest: %d, %d, %v", c, cost, e)
	}
	for _, m := range models(t, 300) {
		x := truthOf(m)
		for k, a := range m.Attributes {
			c, cost, e := model.Cheapest(m, k)
			if len(x.products) == 0 {
				if c != 0 || cost != 0 || e != api.ErrConflict {
					t.Errorf("Cheapest(%d): %d, %d, %v for %s", k, c, cost, e, shaped(m))
				}
				continue
			}
			want := slices.MinFunc(x.products, func(c, d uint32) int { return int(sumOf(a, c) - sumOf(a, d)) }) // the first one
			if c != want || cost != sumOf(a, want) || e != api.OK {
				t.Errorf("Cheapest(%d): %d, %d, %v, want %d for %s", k, c, cost, e, want, shaped(m))
			}
		}
	}
}

func TestNoSuchAttribute(t *testing.T) {
	void := parsed(t, "root a\nattribute p\nrequire 0")
	for _, m := range append(models(t, 10), full(), void) {
		n := len(m.Attributes)
		for _, k := range []int{-1, n, n + 1, -1 << 63, 1<<63 - 1} {
			if x, e := model.Cost(m, k, 1); x != 0 || e != api.ErrRange {
				t.Errorf("Cost(%d): %d, %v", k, x, e)
			}
			if c, x, e := model.Cheapest(m, k); c != 0 || x != 0 || e != api.ErrRange {
				t.Errorf("Cheapest(%d): %d, %d, %v", k, c, x, e)
			}
		}
	}
	if c, x, e := model.Cheapest(void, 0); c != 0 || x != 0 || e != api.ErrConflict {
		t.Errorf("Cheapest of a void model: %d, %d, %v", c, x, e)
	}
}

// P3.10, P3.15

func TestRanks(t *testing.T) {
	for _, m := range models(t, 200) {
		x := truthOf(m)
		for c := range uint32(1) << x.n {
			rank, is := slices.BinarySearch(x.products, c)
			for _, more := range []uint32{0, 1 << x.n, ^uint32(0) << x.n} {
				k, e := model.Rank(m, c|more)
				if is && (k != uint64(rank) || e != api.OK) || !is && (k != 0 || e != api.ErrNone) {
					t.Errorf("Rank(%b): %d, %v for %s", c|more, k, e, shaped(m))
				}
			}
		}
		for k, want := range x.products {
			if c, e := model.Unrank(m, uint64(k)); c != want || e != api.OK {
				t.Errorf("Unrank(%d): %d, %v, want %d for %s", k, c, e, want, shaped(m))
			}
		}
		for _, k := range []uint64{uint64(len(x.products)), uint64(len(x.products)) + 1, 1 << x.n, 1 << 24, 1<<64 - 1} {
			if c, e := model.Unrank(m, k); k >= uint64(len(x.products)) && (c != 0 || e != api.ErrNone) {
				t.Errorf("Unrank(%d): %d, %v for %s", k, c, e, shaped(m))
			}
		}
	}
}

func TestRanksOfAllFeatures(t *testing.T) {
	m := wide(24, api.Optional)
	for _, k := range []uint64{0, 1, 2, 1<<22 - 1, 1 << 22, 1<<23 - 2, 1<<23 - 1} {
		want := uint32(2*k + 1)
		if c, e := model.Unrank(m, k); c != want || e != api.OK {
			t.Errorf("Unrank(%d): %d, %v", k, c, e)
		}
		if got, e := model.Rank(m, want|0xff000000); got != k || e != api.OK {
			t.Errorf("Rank(%d): %d, %v", want, got, e)
		}
	}
	if c, e := model.Unrank(m, 1<<23); c != 0 || e != api.ErrNone {
		t.Errorf("Unrank(2^23): %d, %v", c, e)
	}
}

// P3.11, P3.14

func TestClauses(t *testing.T) {
	for _, m := range models(t, 200) {
		var want [][]int
		for k := range wantRules(m) {
			d, _ := model.RuleSet(m, k)
			l, _ := formula.Clauses(d)
			want = append(want, l...)
		}
		l, e := model.Clauses(m)
		if e != api.OK || !slices.EqualFunc(l, want, slices.Equal[[]int]) {
			t.Errorf("Clauses: %v, %v, want %v for %s", l, e, want, shaped(m))
		}
		x := truthOf(m)
		if got := slices.Collect(formula.Models(x.n, l)); !slices.Equal(got, x.products) {
			t.Errorf("the models of the clauses: %v, want %v for %s", got, x.products, shaped(m))
		}
	}
}

func TestClausesOfPhone(t *testing.T) {
	want := [][]int{{1}, {1, -2}, {-1, 2}, {1, -3}, {2, -4}, {2, -5}, {-2, 4, 5}, {-2, -4, -5}, {-3, 5}}
	m := parsed(t, phone)
	if l, e := model.Clauses(m); e != api.OK || !slices.EqualFunc(l, want, slices.Equal[[]int]) {
		t.Errorf("Clauses: %v, %v", l, e)
	}
}

// A limit may have too many clauses of its own, or all together may be too many.
func TestTooManyClauses(t *testing.T) {
	m := wide(24, api.Optional)
	of := func(count int) api.Expr { // half of the configurations of the features from 1 to count
		e := node(api.OpXor)
		for i := 1; i <= count; i++ {
			e.Kids = append(e.Kids, name(m.Features[i].Name))
		}
		return e
	}
	for _, x := range []struct {
		sizes []int
		want  api.Errno
	}{
		{[]int{12}, api.OK},                                 // 24 clauses of the tree, and 2^11
		{[]int{12, 11, 10}, api.OK},                         // 24 + 2048 + 1024 + 512
		{[]int{12, 12}, api.ErrLimit},                       // 24 + 2 * 2048
		{[]int{13}, api.ErrLimit},                           // 24 + 4096
		{[]int{14, 2}, api.ErrLimit},                        // one rule alone has 8192
		{[]int{2, 2, 20}, api.ErrLimit},                     // the last one
		{[]int{12, 11, 10, 9, 8, 7, 6, 4}, api.OK},          // 24 + 4072 = 4096
		{[]int{12, 11, 10, 9, 8, 7, 6, 4, 2}, api.ErrLimit}, // 2 more
	} {
		m.Requires = nil
		for _, n := range x.sizes {
			m.Requires = append(m.Requires, of(n))
		}
		l, e := model.Clauses(m)
		if e != x.want || e != api.OK && len(l) != 0 {
			t.Errorf("Clauses with %v: %d, %v", x.sizes, len(l), e)
		}
	}
	if d, e := model.Diagram(m); e != api.OK || d.Same(diagram.True()) {
		t.Errorf("Diagram: %v", e)
	}
}
