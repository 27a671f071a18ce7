package formula_test

import (
	"fmt"
	"math"
	"slices"
	"testing"

	"motley/api"
	"motley/formula"
)

// consequencesOf are those of clauses and literals, found as the chapter defines them, and whether there is a conflict.
func consequencesOf(l [][]int, fixed []int) (map[int]bool, bool) {
	got := map[int]bool{}
	for _, x := range fixed {
		got[x] = true
	}
	for size := -1; size < len(got); {
		size = len(got)
		for _, clause := range l {
			for _, x := range clause {
				others := slices.DeleteFunc(slices.Clone(clause), func(y int) bool { return y == x || got[-y] })
				if len(others) == 0 {
					got[x] = true
				}
			}
		}
	}
	conflict := slices.ContainsFunc(l, func(clause []int) bool { return len(clause) == 0 })
	for x := range got {
		conflict = conflict || got[-x]
	}
	return got, conflict
}

// followsFrom reports whether a step follows from clauses.
func followsFrom(l [][]int, step []int) bool {
	var negated []int
	for _, x := range step {
		negated = append(negated, -x)
	}
	_, conflict := consequencesOf(l, negated)
	return conflict
}

// P2.9

func TestPropagate(t *testing.T) {
	d := dice(77)
	conflicts := 0
	for _, p := range problems(1500) {
		for range 4 {
			var fixed []int
			if p.n > 0 {
				for range d.roll(4) {
					fixed = append(fixed, d.literal(p.n))
				}
			}
			given := slices.Clone(fixed)
			found, conflict := consequencesOf(p.l, fixed)
			var want []int
			code := api.ErrConflict
			if !conflict {
				code = api.OK
				for i := 1; i <= p.n; i++ {
					if found[i] {
						want = append(want, i)
					}
					if found[-i] {
						want = append(want, -i)
					}
				}
			} else {
				conflicts++
			}
			got, err := formula.Propagate(p.n, p.l, fixed)
			if err != code || !slices.Equal(got, want) {
				t.Errorf("Propagate(%d, %v, %v): %v, %v, want %v, %v", p.n, p.l, fixed, got, err, want, code)
			}
			if !slices.Equal(fixed, given) {
				t.Fatal("the literals are changed")
			}
		}
	}
	if conflicts < 1000 || conflicts > 5000 {
		t.Errorf("%d conflicts", conflicts)
	}
}

func TestPropagateChain(t *testing.T) {
	var l [][]int
	var up, down []int
	for i := 23; i > 0; i-- { // the last link first
		l = append(l, []int{-i, i + 1, -i, i + 1})
	}
	for i := 1; i <= 24; i++ {
		up, down = append(up, i), append(down, -i)
	}
	for _, x := range []struct {
		fixed, want []int
		code        api.Errno
	}{
		{nil, nil, api.OK},
		{[]int{1}, up, api.OK},
		{[]int{-24}, down, api.OK},
		{[]int{-24, -24, -3}, down, api.OK},
		{slices.Repeat([]int{23}, 1000), []int{23, 24}, api.OK},
		{[]int{-2, 23}, []int{-1, -2, 23, 24}, api.OK},
		{[]int{1, -24}, nil, api.ErrConflict},
		{[]int{5, -5}, nil, api.ErrConflict},
	} {
		if got, err := formula.Propagate(24, l, x.fixed); err != x.code || !slices.Equal(got, x.want) {
			t.Errorf("Propagate of %.60v: %v, %v, want %v, %v", x.fixed, got, err, x.want, x.code)
		}
	}
}

func TestPropagateCases(t *testing.T) {
	for _, x := range []struct {
		name  string
		n     int
		l     [][]int
		fixed []int
		want  []int
		code  api.Errno
	}{
		{"alone in its clause", 2, [][]int{{-2}}, nil, []int{-2}, api.OK},
		{"alone, several times", 2, [][]int{{2, 2, 2}}, nil, []int{2}, api.OK},
		{"a literal and its negation in a clause", 2, [][]int{{1, -1}, {2, -1, 1}}, nil, nil, api.OK},
		{"the same, with the literal", 2, [][]int{{1, -1}, {2, -1, 1}}, []int{1}, []int{1}, api.OK},
		{"several times, and a negation", 2, [][]int{{1, 1, 2, 2}}, []int{-2}, []int{1, -2}, api.OK},
		{"no more than what follows", 2, every(1, 2), nil, nil, api.OK},
		{"a conflict with one literal more", 2, every(1, 2), []int{1}, nil, api.ErrConflict},
		{"an empty clause", 2, [][]int{{1}, {}}, nil, nil, api.ErrConflict},
		{"an empty clause, no features", 0, [][]int{{}}, nil, nil, api.ErrConflict},
		{"clauses that exclude each other", 1, [][]int{{1}, {-1}}, nil, nil, api.ErrConflict},
		{"nothing", 0, nil, nil, nil, api.OK},
		{"a literal that is given", 3, nil, []int{3, -1}, []int{-1, 3}, api.OK},
	} {
		if got, err := formula.Propagate(x.n, x.l, x.fixed); err != x.code || !slices.Equal(got, x.want) {
			t.Errorf("Propagate, %s: %v, %v", x.name, got, err)
		}
	}
}

func TestPropagateErrors(t *testing.T) {
	for _, fixed := range [][]int{{0}, {4}, {-4}, {1, -1, 0}, {math.MinInt}, {math.MaxInt}} {
		for _, l := range [][][]int{nil, {{}}, {{1}, {-1}}} {
			if got, err := formula.Propagate(3, l, fixed); err != api.ErrArg || len(got) != 0 {
				t.Errorf("Propagate of %v: %v, %v", fixed, got, err)
			}
		}
		if _, err := formula.Propagate(25, nil, fixed); err != api.ErrRange {
			t.Errorf("Propagate of %v, n out of range: %v", fixed, err)
		}
	}
}

// P2.10, P2.17, P2.18

// wantRefutation fails if a proof is no refutation, by the chapter's definition.
func wantRefutation(t *testing.T, p problem, proof [][]int) {
	t.Helper()
	l := slices.Clone(p.l)
	for k, step := range proof {
		if slices.ContainsFunc(step, func(x int) bool { return x == 0 || x > p.n || x < -p.n }) {
			t.Errorf("the step %d of the proof of %v is %v", k, p.l, step)
		}
		if !followsFrom(l, step) {
			t.Errorf("the step %d of the proof %v of %v does not follow", k, proof, p.l)
		}
		if len(step) == 0 {
			return
		}
		l = append(l, step)
	}
	t.Errorf("the proof %v of %v has no empty step", proof, p.l)
}

func TestSolve(t *testing.T) {
	refuted := 0
	for _, p := range problems(3000) {
		a, err := formula.Solve(p.n, p.l)
		models := modelsOf(p.n, p.l)
		if err != api.OK || a.OK != (len(models) > 0) {
			t.Errorf("Solve(%d, %v): %v, %v", p.n, p.l, a, err)
			continue
		}
		if a.OK {
			if a.Model != models[0] || len(a.Proof) != 0 {
				t.Errorf("Solve(%d, %v): %v, want the model %d", p.n, p.l, a, models[0])
			}
			continue
		}
		refuted++
		wantRefutation(t, p, a.Proof)
		if at, err := formula.Verify(p.n, p.l, a.Proof); a.Model != 0 || at != -1 || err != api.OK {
			t.Errorf("Verify of the proof of %v: %d, %v; model %d", p.l, at, err, a.Model)
		}
	}
	if refuted < 400 || refuted > 2600 {
		t.Errorf("%d of 3000 problems have no model", refuted)
	}
}

// random are clauses of just so many different features.
func (d *dice) random(n, size, count int) [][]int {
	var l [][]int
	for range count {
		var clause []int
		for len(clause) < size {
			if x := d.literal(n); !slices.Contains(clause, x) && !slices.Contains(clause, -x) {
				clause = append(clause, x)
			}
		}
		l = append(l, clause)
	}
	return l
}

// Problems with all features; the diagram tells what is right.
func TestSolveLargeProblems(t *testing.T) {
	d := dice(60221)
	l := map[string][][]int{
		"pigeons":     pigeons(4),
		"all needed":  every(2, 4, 6, 8, 10, 12, 14, 16, 18, 20),
		"high":        every(24, 23, 22, 21, 20, 19, 18, 17),
		"no clauses":  nil,
		"all on":      every(24, 12, 1)[1:],
		"all off":     every(24, 12, 1)[:7],
		"one clause":  {{3, 24}},
		"single ones": {{3}, {24}, {-7}, {7, 9}},
	}
	for _, x := range []struct{ size, count int }{{3, 70}, {3, 90}, {3, 100}, {3, 110}, {4, 200}, {4, 230}} {
		for k := range 3 {
			l[fmt.Sprint(x, k)] = d.random(24, x.size, x.count)
		}
	}
	l["5 literals"] = d.random(24, 5, 460)
	for name, clauses := range l {
		set, err := formula.Conjunction(24, clauses)
		if err != api.OK {
			t.Errorf("Conjunction, %s: %v", name, err)
		}
		model, is := set.Least()
		a, err := formula.Solve(24, clauses)
		if err != api.OK || a.OK != is || a.Model != model {
			t.Errorf("Solve, %s: %t, %x, %v, want %t, %x", name, a.OK, a.Model, err, is, model)
		}
		if a.OK != (len(a.Proof) == 0) {
			t.Errorf("Solve, %s: a proof of %d steps", name, len(a.Proof))
		}
		if at, err := formula.Verify(24, clauses, a.Proof); !a.OK && (at != -1 || err != api.OK) {
			t.Errorf("Verify of the proof, %s: %d, %v", name, at, err)
		}
	}
}

func TestSolveSharesNoMemory(t *testing.T) {
	l := every(1, 2, 3, 4)
	before := copies(l)
	a, _ := formula.Solve(4, l)
	for _, step := range a.Proof {
		for k := range step[:cap(step)] {
			step[:cap(step)][k] = 99
		}
	}
	if !sameClauses(l, before) {
		t.Error("the proof shares memory with the clauses")
	}
	for k, step := range a.Proof {
		for n := range k {
			if len(step) > 0 && len(a.Proof[n]) > 0 && &step[0] == &a.Proof[n][0] {
				t.Error("steps share memory")
			}
		}
	}
}

// P2.11

// verdict is what Verify returns, by the chapter's definitions.
func verdict(l, proof [][]int) int {
	l = slices.Clone(l)
	for k, step := range proof {
		if !followsFrom(l, step) {
			return k
		}
		if len(step) == 0 {
			return -1
		}
		l = append(l, step)
	}
	return len(proof)
}

func TestVerify(t *testing.T) {
	d := dice(500)
	verdicts := map[string]int{}
	for _, p := range problems(1500) {
		a, _ := formula.Solve(p.n, p.l)
		for k := range 6 {
			proof := d.clauses(p.n, d.roll(6))
			switch {
			case k == 1:
				proof = a.Proof
			case k == 2:
				proof = append(copies(a.Proof), proof...)
			case k > 2 && len(a.Proof) > 0:
				at := d.roll(len(a.Proof))
				proof = append(copies(a.Proof[:at]), a.Proof[at+1:]...)
			}
			before := copies(proof)
			want := verdict(p.l, proof)
			got, err := formula.Verify(p.n, p.l, proof)
			if got != want || err != api.OK {
				t.Errorf("Verify(%d, %v, %v): %d, %v, want %d", p.n, p.l, proof, got, err, want)
			}
			if got == -1 && len(modelsOf(p.n, p.l)) > 0 { // P2.18
				t.Errorf("Verify accepts the proof %v of %v, which has a model", proof, p.l)
			}
			if !sameClauses(proof, before) {
				t.Fatal("the proof is changed")
			}
			switch {
			case want == -1:
				verdicts["refutation"]++
			case want == len(proof):
				verdicts["no empty step"]++
			default:
				verdicts["a step that does not follow"]++
			}
		}
	}
	if len(verdicts) != 3 || verdicts["refutation"] < 300 || verdicts["no empty step"] < 300 {
		t.Errorf("verdicts: %v", verdicts)
	}
}

func TestVerifyCases(t *testing.T) {
	square := every(1, 2)
	for _, x := range []struct {
		name     string
		n        int
		l, proof [][]int
		want     int
	}{
		{"a conflict at once", 1, [][]int{{1}, {-1}}, [][]int{{}}, -1},
		{"no conflict", 1, [][]int{{1}}, [][]int{{}}, 0},
		{"no steps", 1, [][]int{{1}, {-1}}, nil, 0},
		{"the empty step alone", 2, square, [][]int{{}}, 0},
		{"a step, and no empty one", 2, square, [][]int{{1}}, 1},
		{"a step, and the empty one", 2, square, [][]int{{1}, {}}, -1},
		{"a step that does not follow behind the empty one", 3, square, [][]int{{1}, {}, {3}, {-3}}, -1},
		{"a step that does not follow before the empty one", 3, square, [][]int{{3}, {1}, {}}, 0},
		{"the second step does not follow", 3, square[:2], [][]int{{2}, {3}, {}}, 1},
		{"an empty step in the middle that does not follow", 3, square, [][]int{{1, 2}, {}, {1}, {}}, 1},
		{"an empty clause", 2, [][]int{{}}, [][]int{{1}, {2}, {}}, -1},
		{"an empty clause, and no empty step", 2, [][]int{{}}, [][]int{{1}, {2}}, 2},
		{"a step with a literal and its negation", 2, nil, [][]int{{1, -1}, {2}}, 1},
		{"a step with a literal several times", 2, [][]int{{1}}, [][]int{{1, 1, 1}, {1, 2}}, 2},
		{"a step that is a clause", 2, [][]int{{1, 2}}, [][]int{{2, 1}}, 1},
		{"a step that is a part of a clause", 2, [][]int{{1, 2}}, [][]int{{2}}, 0},
		{"a step as long as can be", 2, [][]int{{1, 2}}, [][]int{slices.Repeat([]int{1, 2}, 32)}, 1},
		{"nothing at all", 0, nil, nil, 0},
		{"no features", 0, [][]int{nil}, [][]int{nil, nil}, -1},
	} {
		if got, err := formula.Verify(x.n, x.l, x.proof); got != x.want || err != api.OK {
			t.Errorf("Verify, %s: %d, %v, want %d", x.name, got, err, x.want)
		}
	}
}

func TestVerifyManySteps(t *testing.T) {
	const many = 200_000
	l := every(1, 2, 3)
	proof := slices.Repeat([][]int{{1, 2}, {-1, 2, 3}, {1, -2}}, many/3)
	if got, err := formula.Verify(3, l, proof); got != len(proof) || err != api.OK {
		t.Errorf("Verify of %d steps: %d, %v", len(proof), got, err)
	}
	proof = append(proof, []int{2}, nil)
	if got, err := formula.Verify(3, l, proof); got != -1 || err != api.OK {
		t.Errorf("Verify of %d steps: %d, %v", len(proof), got, err)
	}
}

func TestVerifyErrors(t *testing.T) {
	for name, bad := range map[string][]int{
		"0": {1, 0}, "too great": {4}, "too small": {-4}, "the least number": {math.MinInt}, "the greatest": {math.MaxInt},
		"too many": slices.Repeat([]int{1}, 65),
	} {
		for _, l := range [][][]int{nil, {{1}, {-1}}, {{}}} {
			for _, proof := range [][][]int{{bad}, {{1}, bad}, {{2}, bad, {}}, {{}, bad}} {
				if got, err := formula.Verify(3, l, proof); got != 0 || err != api.ErrArg {
					t.Errorf("Verify with a step, %s: %d, %v", name, got, err)
				}
			}
		}
		if _, err := formula.Verify(25, nil, [][]int{bad}); err != api.ErrRange {
			t.Errorf("Verify with a step, %s, n out of range: %v", name, err)
		}
	}
}
