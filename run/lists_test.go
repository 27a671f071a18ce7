package run_test

import (
	"testing"

	"motley/api"
	"motley/diagram"
	"motley/run"
)

var (
	inA  = diagram.Cube(1, 0)
	inB  = diagram.Cube(2, 0)
	notA = diagram.Cube(0, 1)
	all  = diagram.True()
	none = diagram.False()
)

func part(d diagram.D, status uint8, tok, steps int, out ...int64) run.Part {
	return run.Part{Cond: d, Outcome: run.Outcome{Status: status, Tok: tok, Steps: steps, Out: out}}
}

// mixed is a list that is not canonical: conditions meet or are empty, an outcome is there twice, and there is a status
// that means nothing.
func mixed() []run.Part {
	return []run.Part{
		part(inA, api.Done, -1, 2, 7, 8), part(none, api.Fuel, 3, 1), part(inB, api.Zero, 3, 1),
		part(inB.And(notA), api.Done, -1, 2, 7, 8), part(all, 99, 3, 1),
	}
}

func same(t *testing.T, what string, got, want []run.Part) {
	t.Helper()
	if !run.Same(got, want) || len(got) != len(want) {
		t.Errorf("%s:\n%s\nwant\n%s", what, shownParts(got), shownParts(want))
	}
}

// P9.3

func TestProject(t *testing.T) {
	l := mixed()
	for c, want := range map[uint32]string{
		1: "done, 2: 7 8", 3: "done, 2: 7 8", 2: "zero at 3, 1", 0: "status 99 at 3, 1", 1 << 24: "status 99 at 3, 1",
		1<<31 | 1: "done, 2: 7 8",
	} {
		if o, is := run.Project(l, c); !is || shown(o) != want {
			t.Errorf("%b: %s, %v, want %s", c, shown(o), is, want)
		}
	}
	o, is := run.Project(l[:1], 2)
	if is || !equal(o, run.Outcome{}) {
		t.Error("there is none:", o, is)
	}
	if o, is := run.Project(nil, 0); is || !equal(o, run.Outcome{}) {
		t.Error("of nothing:", o, is)
	}
	o, _ = run.Project(l, 1)
	o.Out[0] = 100
	same(t, "the list", l, mixed())
}

func TestRestrict(t *testing.T) {
	l := mixed()
	same(t, "to A", run.Restrict(l, inA), []run.Part{
		part(inA, api.Done, -1, 2, 7, 8), part(inA.And(inB), api.Zero, 3, 1), part(inA, 99, 3, 1)})
	same(t, "to not A", run.Restrict(l, notA), []run.Part{
		part(inB.And(notA), api.Zero, 3, 1), part(inB.And(notA), api.Done, -1, 2, 7, 8), part(notA, 99, 3, 1)})
	same(t, "to nothing", run.Restrict(l, none), nil)
	same(t, "of nothing", run.Restrict(nil, all), nil)
	run.Restrict(l, all)[0].Out[0] = 100
	same(t, "the list", l, mixed())
}

func TestMerge(t *testing.T) {
	l := mixed()
	same(t, "one list", run.Merge([][]run.Part{l}), []run.Part{
		part(all, 99, 3, 1), part(inA.Or(inB), api.Done, -1, 2, 7, 8), part(inB, api.Zero, 3, 1)})
	same(t, "two lists", run.Merge([][]run.Part{l[2:3], nil, l[:2]}), []run.Part{
		part(inA, api.Done, -1, 2, 7, 8), part(inB, api.Zero, 3, 1)})
	same(t, "nothing", run.Merge(nil), nil)
	same(t, "empty lists", run.Merge([][]run.Part{nil, {}}), nil)
	same(t, "empty conditions", run.Merge([][]run.Part{l[1:2]}), nil)
	// Those with the same least configuration stay in the order in which they came first.
	x, y, z := part(inA, 0, -1, 9), part(all, 0, -1, 3), part(inA, 0, -1, 1)
	same(t, "the same least", run.Merge([][]run.Part{{x, z}, {y}}), []run.Part{y, x, z})
	same(t, "the same least", run.Merge([][]run.Part{{z}, {y, x, z}}), []run.Part{y, z, x})
	var many, low, high []run.Part
	for k := range 100 {
		x, y := part(inA, 0, -1, k), part(all, 0, k, 0)
		many, low, high = append(many, x, y), append(low, y), append(high, x)
	}
	same(t, "many with the same least", run.Merge([][]run.Part{many}), append(low, high...))
	w := part(none, 0, -1, 1)
	same(t, "an empty one is no occurrence", run.Merge([][]run.Part{{w, x, z}}), []run.Part{x, z})
	// Each field tells outcomes apart.
	apart := []run.Part{
		part(all, 0, -1, 1), part(all, 0, -1, 1, 0), part(all, 0, -1, 1, 0, 0), part(all, 2, -1, 1), part(all, 0, 1, 1),
		part(all, 0, -1, 11), part(all, 0, -1, 1, 1), part(all, 0, -1, 1, 10), part(all, 0, -1, 1, 1, 0), part(all, 0, -11, 1),
	}
	same(t, "different outcomes", run.Merge([][]run.Part{apart, apart}), apart)
	run.Merge([][]run.Part{l})[1].Out[0] = 100
	same(t, "the list", l, mixed())
}

func TestSame(t *testing.T) {
	x := part(inA, api.Zero, 3, 4, 1, 2)
	if !run.Same(nil, []run.Part{}) || !run.Same([]run.Part{x}, []run.Part{part(inA, api.Zero, 3, 4, 1, 2)}) {
		t.Error("equal lists")
	}
	empty := x
	empty.Out = []int64{}
	if !run.Same([]run.Part{empty}, []run.Part{part(inA, api.Zero, 3, 4)}) {
		t.Error("no outputs")
	}
	for _, y := range []run.Part{
		part(inB, api.Zero, 3, 4, 1, 2), part(inA, api.Done, 3, 4, 1, 2), part(inA, api.Zero, 2, 4, 1, 2),
		part(inA, api.Zero, 3, 5, 1, 2), part(inA, api.Zero, 3, 4, 1), part(inA, api.Zero, 3, 4, 2, 1), part(inA, api.Zero, 3, 4),
	} {
		if run.Same([]run.Part{x}, []run.Part{y}) || run.Same([]run.Part{x, y}, []run.Part{y, x}) {
			t.Error("same:", shown(y.Outcome))
		}
	}
	if run.Same([]run.Part{x}, nil) || run.Same([]run.Part{x}, []run.Part{x, x}) {
		t.Error("lists of different lengths")
	}
}

func TestValid(t *testing.T) {
	a, b := part(notA, api.Done, -1, 2, 7), part(inA, api.Deep, 3, 1)
	for _, l := range [][]run.Part{nil, {a}, {b}, {a, b}, {part(all, api.Rejected, -1, 0)}, {part(inA, 0, -7, -7)}} {
		if !run.Valid(l) {
			t.Errorf("not valid:\n%s", shownParts(l))
		}
	}
	for _, l := range [][]run.Part{
		{b, a}, {a, a}, {part(none, 0, -1, 2)}, {a, part(inA, api.Deep+1, 3, 1)}, {part(all, 99, 3, 1)},
		{part(notA, api.Done, -1, 2, 7), part(inA, api.Done, -1, 2, 7)}, {part(all, 0, -1, 2), part(inA, 0, -1, 3)},
		{a, part(inB, 0, -1, 3)}, {a, part(none, 0, -1, 3), b}, mixed(),
	} {
		if run.Valid(l) {
			t.Errorf("valid:\n%s", shownParts(l))
		}
	}
}

func TestWhere(t *testing.T) {
	l := append(mixed(), part(notA.And(inB), api.Zero, 1, 1))
	for status, want := range map[uint8]diagram.D{
		api.Done: inA.Or(inB), api.Zero: inB, api.Fuel: none, api.Deep: none, 99: all, 255: none,
	} {
		if got := run.Where(l, status); !got.Same(want) {
			t.Error("status", status)
		}
	}
	if !run.Where(nil, api.Done).Empty() {
		t.Error("of nothing")
	}
}
