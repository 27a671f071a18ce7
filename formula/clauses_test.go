package formula_test

import (
	"math"
	"slices"
	"testing"

	"motley/api"
	"motley/diagram"
	"motley/formula"
)

// isTrue reports whether a clause is true for a configuration.
func isTrue(clause []int, c uint32) bool {
	return slices.ContainsFunc(clause, func(x int) bool { return x > 0 && c>>(x-1)&1 == 1 || x < 0 && c>>(-x-1)&1 == 0 })
}

// modelsOf are the models, found by trying.
func modelsOf(n int, l [][]int) []uint32 {
	var got []uint32
	for c := range uint32(1) << n {
		if !slices.ContainsFunc(l, func(clause []int) bool { return !isTrue(clause, c) }) {
			got = append(got, c)
		}
	}
	return got
}

// literal is any literal for n.
func (d *dice) literal(n int) int {
	x := 1 + d.roll(n)
	if d.roll(2) == 0 {
		return -x
	}
	return x
}

// clauses are so many valid ones; some have a literal twice, or with its negation, and few are empty.
func (d *dice) clauses(n, count int) [][]int {
	var l [][]int
	for range count {
		var clause []int
		for range d.roll(5) {
			if n > 0 {
				clause = append(clause, d.literal(n))
			}
		}
		if len(clause) == 0 && n > 0 && d.roll(8) > 0 {
			clause = append(clause, d.literal(n), d.literal(n))
		}
		if len(clause) > 0 && d.roll(4) == 0 {
			clause = append(clause, clause[d.roll(len(clause))])
		}
		l = append(l, clause)
	}
	return l
}

// problem is n and clauses.
type problem struct {
	n int
	l [][]int
}

// problems are small ones: with many models, with few, and with none.
func problems(count int) []problem {
	d := dice(141421356237)
	l := []problem{
		{0, nil}, {0, [][]int{{}}}, {1, nil}, {1, [][]int{{}}}, {1, [][]int{{1}, {-1}}}, {1, [][]int{{1, -1}}},
		{1, [][]int{{1, 1}, {-1, -1, -1}}}, {2, [][]int{{1, 2}, {1, -2}, {-1, 2}, {-1, -2}}}, {3, [][]int{{-1, 2}, {-2, 3}}},
		{2, [][]int{{1, 2}, {1}, {-1}, {2}}}, {3, [][]int{{3}, nil, {-3}}}, {6, pigeons(2)}, {6, [][]int{{6, -6}, {6}, {-6, 6, 1}}},
	}
	for len(l) < count {
		n := d.roll(7)
		l = append(l, problem{n, d.clauses(n, d.roll(4*n+2))})
	}
	return l
}

// pigeons are clauses without a model: each of one pigeon more than there are holes sits in a hole of its own.
func pigeons(holes int) [][]int {
	at := func(pigeon, hole int) int { return pigeon*holes + hole + 1 }
	var l [][]int
	for p := range holes + 1 {
		var clause []int
		for h := range holes {
			clause = append(clause, at(p, h))
			for q := range p {
				l = append(l, []int{-at(p, h), -at(q, h)})
			}
		}
		l = append(l, clause)
	}
	return l
}

// every has all clauses of these features, so that there is no model, but one without any of the clauses.
func every(features ...int) [][]int {
	var l [][]int
	for m := range 1 << len(features) {
		var clause []int
		for k, x := range features {
			if m>>k&1 == 1 {
				x = -x
			}
			clause = append(clause, x)
		}
		l = append(l, clause)
	}
	return l
}

// badClauses are n and clauses with an error, as the chapter's section Errors orders them.
func badClauses() map[api.Errno][]problem {
	bad := [][]int{{1}, {1, 0}}
	return map[api.Errno][]problem{
		api.ErrRange: {{-1, nil}, {25, nil}, {math.MinInt, bad}, {math.MaxInt, bad}, {25, [][]int{{25}}}, {-1, [][]int{{}}}},
		api.ErrArg: {
			{3, bad}, {0, [][]int{{1}}}, {0, [][]int{{0}}}, {3, [][]int{{1, 4}}}, {3, [][]int{{-4}}}, {24, [][]int{{25}}},
			{24, [][]int{{-25}}}, {24, [][]int{{math.MinInt}}}, {24, [][]int{{math.MaxInt}}}, {24, [][]int{{}, {1}, {0}}},
			{24, make([][]int, 4097)}, {24, [][]int{slices.Repeat([]int{1}, 65)}}, {1 << 3, slices.Repeat([][]int{{9}}, 4)},
			{2, append(slices.Repeat([][]int{{1}}, 4096), []int{2})},
		},
	}
}

// clauseFunctions are the functions with n and clauses; each reports its error, and whether all else is zero with one.
func clauseFunctions() map[string]func(n int, l [][]int) (api.Errno, bool) {
	return map[string]func(n int, l [][]int) (api.Errno, bool){
		"Conjunction": func(n int, l [][]int) (api.Errno, bool) {
			d, err := formula.Conjunction(n, l)
			return err, d.Empty()
		},
		"Propagate": func(n int, l [][]int) (api.Errno, bool) {
			got, err := formula.Propagate(n, l, []int{0})
			if err == api.ErrArg {
				_, err = formula.Propagate(n, l, nil)
			}
			return err, len(got) == 0
		},
		"Solve": func(n int, l [][]int) (api.Errno, bool) {
			a, err := formula.Solve(n, l)
			return err, !a.OK && a.Model == 0 && len(a.Proof) == 0
		},
		"Verify": func(n int, l [][]int) (api.Errno, bool) {
			at, err := formula.Verify(n, l, [][]int{{0}})
			if err == api.ErrArg {
				_, err = formula.Verify(n, l, nil)
			}
			return err, at == 0
		},
		"Core": func(n int, l [][]int) (api.Errno, bool) {
			got, err := formula.Core(n, l)
			return err, len(got) == 0
		},
		"Write": func(n int, l [][]int) (api.Errno, bool) {
			s, err := formula.Write(n, l)
			return err, s == ""
		},
	}
}

func TestClausesThatAreNotValid(t *testing.T) {
	for name, call := range clauseFunctions() {
		for code, list := range badClauses() {
			for _, p := range list {
				if err, zero := call(p.n, p.l); err != code || !zero {
					t.Errorf("%s(%d, %.60v): %v, want %v; zero results: %t", name, p.n, p.l, err, code, zero)
				}
			}
		}
	}
}

// As many clauses as there can be, and clauses as long as can be.
func TestClausesThatAreJustValid(t *testing.T) {
	most := slices.Repeat([][]int{{1, -24}, {2}}, 2048)
	long := [][]int{slices.Repeat([]int{-24, 24}, 32)}
	for name, call := range clauseFunctions() {
		for _, l := range [][][]int{most, long} {
			if err, _ := call(24, l); err != api.OK && !(name == "Core" && err == api.ErrNone) {
				t.Errorf("%s of %d clauses: %v", name, len(l), err)
			}
		}
	}
}

func copies(l [][]int) [][]int {
	got := make([][]int, len(l))
	for k := range l {
		got[k] = slices.Clone(l[k])
	}
	return got
}

// R4: no function changes its clauses.
func TestClausesAreNotChanged(t *testing.T) {
	for _, p := range problems(200) {
		before := copies(p.l)
		for name, call := range clauseFunctions() {
			call(p.n, p.l)
			if !sameClauses(p.l, before) {
				t.Fatalf("%s changes its clauses", name)
			}
		}
	}
}

// P2.8

func TestConjunction(t *testing.T) {
	for _, p := range problems(600) {
		d, err := formula.Conjunction(p.n, p.l)
		if err != api.OK || d.Support()>>p.n != 0 {
			t.Errorf("Conjunction(%d, %v): %v, depends on %x", p.n, p.l, err, d.Support())
		}
		want := diagram.False()
		for _, c := range modelsOf(p.n, p.l) {
			want = want.Or(diagram.Cube(c, (1<<p.n-1)&^c))
		}
		if !d.Same(want) {
			t.Errorf("Conjunction(%d, %v)", p.n, p.l)
		}
	}
	d, err := formula.Conjunction(24, [][]int{{24, -1}, {2}})
	want := diagram.Cube(1<<23, 0).Or(diagram.Cube(0, 1)).And(diagram.Cube(2, 0))
	if err != api.OK || !d.Same(want) {
		t.Errorf("Conjunction with the last feature: %v", err)
	}
}

// P2.13, P2.17

func TestModels(t *testing.T) {
	for _, p := range problems(600) {
		want := modelsOf(p.n, p.l)
		models := formula.Models(p.n, p.l)
		if got := slices.Collect(models); !slices.Equal(got, want) {
			t.Errorf("Models(%d, %v): %v, want %v", p.n, p.l, got, want)
		}
		d, _ := formula.Conjunction(p.n, p.l)
		if got := slices.Collect(d.All(p.n)); !slices.Equal(got, want) {
			t.Errorf("Conjunction(%d, %v) has %v", p.n, p.l, got)
		}
		for end := range want {
			var got []uint32
			for c := range models {
				got = append(got, c)
				if len(got) > end {
					break
				}
			}
			if !slices.Equal(got, want[:end+1]) {
				t.Errorf("Models(%d, %v) up to %d: %v", p.n, p.l, end, got)
			}
		}
		if again := slices.Collect(models); !slices.Equal(again, want) {
			t.Errorf("Models(%d, %v) run again: %v", p.n, p.l, again)
		}
	}
}

func TestModelsWithin(t *testing.T) {
	models := formula.Models(4, [][]int{{1, 2}, {-3}})
	want := slices.Collect(models)
	for range models {
		if got := slices.Collect(models); !slices.Equal(got, want) {
			t.Errorf("a run within a run: %v", got)
		}
	}
	if count := len(slices.Collect(formula.Models(20, nil))); count != 1<<20 {
		t.Errorf("Models of no clauses: %d", count)
	}
	for c := range formula.Models(24, [][]int{{24}, {-1, -2}, {1, 2}}) {
		if c != 1<<23|1 {
			t.Errorf("the first model: %x", c)
		}
		break
	}
}

func TestModelsKeepTheirClauses(t *testing.T) {
	l := [][]int{{1, 2}, {-1}}
	models := formula.Models(2, l)
	l[0][0], l[1] = -2, []int{1}
	if got := slices.Collect(models); !slices.Equal(got, []uint32{2}) {
		t.Errorf("Models after the list was changed: %v", got)
	}
}

func TestModelsOfClausesThatAreNotValid(t *testing.T) {
	for _, list := range badClauses() {
		for _, p := range list {
			if got := slices.Collect(formula.Models(p.n, p.l)); len(got) != 0 {
				t.Errorf("Models(%d, %.60v): %d", p.n, p.l, len(got))
			}
		}
	}
}

// P2.12, P2.19

// coreOf leaves out clauses one by one.
func coreOf(n int, l [][]int) []int {
	var left []int
	for k := range l {
		left = append(left, k)
	}
	for k := range l {
		var others []int
		var clauses [][]int
		for _, other := range left {
			if other != k {
				others = append(others, other)
				clauses = append(clauses, l[other])
			}
		}
		if len(modelsOf(n, clauses)) == 0 {
			left = others
		}
	}
	return left
}

func TestCore(t *testing.T) {
	cores := 0
	for _, p := range problems(1500) {
		got, err := formula.Core(p.n, p.l)
		if len(modelsOf(p.n, p.l)) > 0 {
			if err != api.ErrNone || len(got) != 0 {
				t.Errorf("Core(%d, %v): %v, %v", p.n, p.l, got, err)
			}
			continue
		}
		cores++
		if want := coreOf(p.n, p.l); err != api.OK || !slices.Equal(got, want) {
			t.Errorf("Core(%d, %v): %v, %v, want %v", p.n, p.l, got, err, want)
		}
		wantMinimal(t, p, got)
	}
	if cores < 200 {
		t.Errorf("only %d problems have a core", cores)
	}
}

func wantMinimal(t *testing.T, p problem, core []int) {
	t.Helper()
	var clauses [][]int
	for _, k := range core {
		clauses = append(clauses, p.l[k])
	}
	if len(modelsOf(p.n, clauses)) > 0 {
		t.Errorf("the core %v of %v has a model", core, p.l)
	}
	for k := range clauses {
		if len(modelsOf(p.n, slices.Delete(copies(clauses), k, k+1))) == 0 {
			t.Errorf("the core %v of %v has no model without its element %d", core, p.l, k)
		}
	}
}

func TestCoreOfLargeProblems(t *testing.T) {
	all := func(from, to int) []int {
		var l []int
		for k := from; k < to; k++ {
			l = append(l, k)
		}
		return l
	}
	features := []int{24, 3, 22, 5, 20, 7, 18, 9, 16, 11, 14, 13}
	for _, x := range []struct {
		name string
		n    int
		l    [][]int
		want []int
	}{
		{"all needed", 24, every(features...), all(0, 4096)},
		{"pigeons", 20, pigeons(4), all(0, len(pigeons(4)))},
		{"the first of two is left out", 24, append(every(1, 2, 3, 4), every(21, 22, 23, 24)...), all(16, 32)},
		{"an empty clause at the end", 24, append(every(1, 2), nil), []int{4}},
		{"an empty clause first", 24, append([][]int{nil}, every(1, 2)...), all(1, 5)},
		{"two empty clauses", 0, [][]int{nil, nil}, []int{1}},
		{"clauses twice", 2, append(every(1, 2), every(1, 2)...), all(4, 8)},
	} {
		if got, err := formula.Core(x.n, x.l); err != api.OK || !slices.Equal(got, x.want) {
			t.Errorf("Core, %s: %v, %v", x.name, got, err)
		}
	}
}
