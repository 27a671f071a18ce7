package formula_test

import (
	"slices"
	"strings"
	"testing"

	"motley/api"
	"motley/diagram"
	"motley/formula"
)

// P2.4, P2.16

func TestEvalAndDiagram(t *testing.T) {
	names := someNames(6)
	for _, e := range trees(400, names) {
		before := clone(e)
		d, err := formula.Diagram(e, names)
		if err != api.OK {
			t.Errorf("Diagram of %v: %v", e, err)
		}
		for c := range uint32(64) {
			want := truth(e, names, c)
			for _, more := range []uint32{0, 1 << 6, 0xffffff00, 0xff000000} {
				if got, err := formula.Eval(e, names, c|more); got != want || err != api.OK {
					t.Errorf("Eval of %v for %b: %t, %v", e, c|more, got, err)
				}
				if d.Has(c|more) != want {
					t.Errorf("Diagram of %v has %b: %t", e, c|more, !want)
				}
			}
		}
		if d.Support()>>len(names) != 0 {
			t.Errorf("Diagram of %v depends on %x", e, d.Support())
		}
		if !equal(e, before) {
			t.Fatal("the formula is changed")
		}
	}
}

// Each operator for all values of its kids.
func TestOperators(t *testing.T) {
	names := []string{"a", "b", "c", "d"}
	for op := api.OpFalse; op <= api.OpChoice; op++ {
		for _, kids := range arities[op] {
			e := node(op)
			if op == api.OpName {
				e.Name = "d"
			}
			for k := range kids {
				e.Kids = append(e.Kids, name(names[k]))
			}
			d, _ := formula.Diagram(e, names)
			for c := range uint32(16) {
				want := truth(e, names, c)
				if got, err := formula.Eval(e, names, c); got != want || err != api.OK || d.Has(c) != want {
					t.Errorf("the operator %d with %d kids for %b: %t, %v", op, kids, c, got, err)
				}
			}
		}
	}
}

func TestAllFeatures(t *testing.T) {
	names := strings.Split("abcdefghijklmnopqrstuvwx", "")
	for i, s := range names {
		d, err := formula.Diagram(name(s), names)
		if err != api.OK || !d.Same(diagram.Cube(1<<i, 0)) {
			t.Errorf("Diagram of %q: %v", s, err)
		}
		on, err := formula.Eval(name(s), names, 1<<i)
		off, _ := formula.Eval(name(s), names, ^uint32(0)&^(1<<i))
		if err != api.OK || !on || off {
			t.Errorf("Eval of %q: %t, %t, %v", s, on, off, err)
		}
	}
	if d, err := formula.Diagram(node(api.OpTrue), nil); err != api.OK || !d.Full() {
		t.Errorf("Diagram of 1 without names: %v", err)
	}
	if is, err := formula.Eval(node(api.OpNot, node(api.OpFalse)), nil, 0); err != api.OK || !is {
		t.Errorf("Eval of !0 without names: %v", err)
	}
}

func TestEvalAndDiagramErrors(t *testing.T) {
	want := func(what string, e api.Expr, names []string, code api.Errno) {
		t.Helper()
		if got, err := formula.Eval(e, names, ^uint32(0)); err != code || got {
			t.Errorf("Eval, %s: %t, %v, want %v", what, got, err, code)
		}
		if d, err := formula.Diagram(e, names); err != code || !d.Empty() {
			t.Errorf("Diagram, %s: %v, want %v", what, err, code)
		}
	}
	truth := node(api.OpTrue)
	for code, lists := range badNames() {
		for _, l := range lists {
			want("bad names", truth, l, code)
			want("bad names, and a name that is unknown", name("unknown"), l, code)
			want("a formula that is not valid, and bad names", node(api.OpNot), l, api.ErrArg)
		}
	}
	want("a name that is unknown", name("c"), []string{"a", "b"}, api.ErrName)
	want("no names", node(api.OpOr, truth, name("a")), nil, api.ErrName)
	want("another name in capitals", node(api.OpOr, truth, name("A")), []string{"a"}, api.ErrName)
	want("an operator that is none", api.Expr{Op: 11}, []string{"a"}, api.ErrArg)
	want("a name that is none", name("1"), []string{"a"}, api.ErrArg)
	want("too many nodes", wide(1000), []string{"a"}, api.ErrArg)
	want("too many levels", tower(64), []string{"a"}, api.ErrArg)
}

// P2.5

// ofSet is the formula of a set, as the chapter says it: by fixing.
func ofSet(d diagram.D, names []string) api.Expr {
	if d.Empty() || d.Full() {
		return constant(d.Full())
	}
	i := 0
	for d.With(i, true).Same(d.With(i, false)) {
		i++
	}
	x, high, low := name(names[i]), ofSet(d.With(i, true), names), ofSet(d.With(i, false), names)
	not := node(api.OpNot, x)
	is := func(e api.Expr, op uint8) bool { return e.Op == op }
	switch {
	case is(high, api.OpTrue) && is(low, api.OpFalse):
		return x
	case is(high, api.OpFalse) && is(low, api.OpTrue):
		return not
	case is(low, api.OpFalse):
		return node(api.OpAnd, x, high)
	case is(high, api.OpTrue):
		return node(api.OpOr, x, low)
	case is(high, api.OpFalse):
		return node(api.OpAnd, not, low)
	case is(low, api.OpTrue):
		return node(api.OpOr, not, high)
	}
	return node(api.OpChoice, x, high, low)
}

// anySet is the union of so many cubes of the features.
func (d *dice) anySet(features uint32, cubes int) diagram.D {
	set := diagram.False()
	for range cubes {
		on := uint32(d.roll(1<<24)&d.roll(1<<24)) & features
		off := uint32(d.roll(1<<24)&d.roll(1<<24)) & features
		set = set.Or(diagram.Cube(on&^off, off))
	}
	return set
}

// parity is the set of the configurations with an odd number of the first n features.
func parity(n int) diagram.D {
	set := diagram.False()
	for i := range n {
		set = set.Xor(diagram.Cube(1<<i, 0))
	}
	return set
}

func TestOf(t *testing.T) {
	d := dice(4711)
	names := strings.Split("abcdefghijklmnopqrstuvwx", "")
	small, large := 0, 0
	for k := range 600 {
		features := uint32(d.roll(1 << 24))
		if k%3 > 0 {
			features = 1<<(k%11) - 1
		}
		set := d.anySet(features, 1+d.roll(40))
		if k%2 == 0 {
			set = set.Xor(d.anySet(features, 1+d.roll(10)))
		}
		want, code := ofSet(set, names), api.OK
		if countNodes(want) > api.MaxExpr {
			want, code = api.Expr{}, api.ErrLimit
			large++
		} else {
			small++
		}
		got, err := formula.Of(set, names)
		if err != code || !equal(got, want) {
			t.Errorf("Of: %v, %v", got, err)
			continue
		}
		if err != api.OK {
			continue
		}
		if back, err := formula.Diagram(got, names); err != api.OK || !back.Same(set) { // P2.16
			t.Errorf("Diagram of Of: %v", err)
		}
	}
	if small < 100 || large < 20 {
		t.Errorf("%d sets have small formulas, %d large ones", small, large)
	}
}

func TestOfCases(t *testing.T) {
	names := []string{"a", "b"}
	a, b := diagram.Cube(1, 0), diagram.Cube(2, 0)
	notA, notB := node(api.OpNot, name("a")), node(api.OpNot, name("b"))
	for _, x := range []struct {
		set  diagram.D
		want api.Expr
	}{
		{diagram.False(), node(api.OpFalse)},
		{diagram.True(), node(api.OpTrue)},
		{a, name("a")},
		{b, name("b")},
		{a.Not(), notA},
		{a.And(b), node(api.OpAnd, name("a"), name("b"))},
		{a.Or(b), node(api.OpOr, name("a"), name("b"))},
		{a.Not().And(b), node(api.OpAnd, notA, name("b"))},
		{a.Not().Or(b), node(api.OpOr, notA, name("b"))},
		{a.Xor(b), node(api.OpChoice, name("a"), notB, name("b"))},
	} {
		if got, err := formula.Of(x.set, names); err != api.OK || !equal(got, x.want) {
			t.Errorf("Of: %v, %v, want %v", got, err, x.want)
		}
	}
}

func TestOfLimit(t *testing.T) {
	names := strings.Split("abcdefghijklmnopqrstuvwx", "")
	// The formula of a parity has 2 nodes more than twice those of one feature less.
	below, _ := formula.Of(parity(8), names)
	if nodes, levels := formula.Size(below); nodes < 400 || levels != 9 {
		t.Errorf("Of the parity of 8: %d nodes, %d levels", nodes, levels)
	}
	for n := 10; n <= 24; n++ {
		if e, err := formula.Of(parity(n), names); err != api.ErrLimit || !equal(e, api.Expr{}) {
			t.Errorf("Of the parity of %d: %v", n, err)
		}
	}
	if e, err := formula.Of(diagram.Cube(1<<24-1, 0), names); err != api.OK || countNodes(e) != 47 {
		t.Errorf("Of a single configuration: %v", err)
	}
}

func TestOfSharesNoMemory(t *testing.T) {
	names := []string{"a", "b", "c", "d"}
	e, err := formula.Of(parity(4), names)
	if err != api.OK {
		t.Fatal(err)
	}
	other, _ := formula.Of(parity(4), names)
	want := clone(e)
	spoil(&e.Kids[1])
	if !equal(e.Kids[2], want.Kids[2]) || !equal(e.Kids[0], want.Kids[0]) || !equal(other, want) {
		t.Error("formulas share memory")
	}
}

func TestOfErrors(t *testing.T) {
	for code, lists := range badNames() {
		for _, l := range lists {
			for _, d := range []diagram.D{diagram.True(), diagram.Cube(1<<23, 0), parity(24)} {
				if e, err := formula.Of(d, l); err != code || !equal(e, api.Expr{}) {
					t.Errorf("Of with the names %q: %v, want %v", l, err, code)
				}
			}
		}
	}
	for n := range 24 {
		names := strings.Split("abcdefghijklmnopqrstuvwx", "")[:n]
		for i := n; i < 24; i++ {
			if e, err := formula.Of(diagram.Cube(0, 1<<i), names); err != api.ErrArg || !equal(e, api.Expr{}) {
				t.Errorf("Of a set that depends on %d with %d names: %v", i, n, err)
			}
		}
		if _, err := formula.Of(parity(24), names); err != api.ErrArg {
			t.Errorf("Of a large set with %d names: %v", n, err)
		}
	}
}

// P2.7

// pathsOf are the clauses of a set, as the chapter says it: by fixing.
func pathsOf(d diagram.D, path []int) [][]int {
	if d.Empty() {
		return [][]int{slices.Clone(path)}
	}
	if d.Full() {
		return nil
	}
	i := 0
	for d.With(i, true).Same(d.With(i, false)) {
		i++
	}
	low := pathsOf(d.With(i, false), append(path, i+1))
	return append(low, pathsOf(d.With(i, true), append(path, -(i+1)))...)
}

func sameClauses(a, b [][]int) bool { return slices.EqualFunc(a, b, slices.Equal[[]int]) }

func TestClausesOfSets(t *testing.T) {
	d := dice(8)
	for k := range 400 {
		features := uint32(d.roll(1 << 24))
		if k%2 == 0 {
			features = 1<<(k%9) - 1
		}
		set := d.anySet(features, d.roll(6))
		if k%3 == 0 {
			set = set.Not()
		}
		want := pathsOf(set, nil)
		if len(want) > api.MaxClauses {
			want = nil
		}
		l, err := formula.Clauses(set)
		if (err == api.OK) == (want == nil && !set.Full()) || err != api.OK && err != api.ErrLimit || !sameClauses(l, want) {
			t.Errorf("Clauses: %v, %v, want %v", l, err, want)
		}
		if err != api.OK {
			continue
		}
		if back, err := formula.Conjunction(24, l); err != api.OK || !back.Same(set) { // P2.17
			t.Errorf("Conjunction of Clauses: %v", err)
		}
	}
}

func TestClausesOfSpecialSets(t *testing.T) {
	a, b := diagram.Cube(1, 0), diagram.Cube(2, 0)
	for _, x := range []struct {
		name string
		set  diagram.D
		want [][]int
	}{
		{"empty", diagram.False(), [][]int{{}}},
		{"full", diagram.True(), nil},
		{"a", a, [][]int{{1}}},
		{"not a", a.Not(), [][]int{{-1}}},
		{"a xor b", a.Xor(b), [][]int{{1, 2}, {-1, -2}}},
		{"a and b", a.And(b), [][]int{{1}, {-1, 2}}},
		{"a or b", a.Or(b), [][]int{{1, 2}}},
		{"the last feature", diagram.Cube(1<<23, 0), [][]int{{24}}},
	} {
		if l, err := formula.Clauses(x.set); err != api.OK || !sameClauses(l, x.want) {
			t.Errorf("Clauses of the set %s: %v, %v", x.name, l, err)
		}
	}
}

func TestClausesLimit(t *testing.T) {
	l, err := formula.Clauses(parity(13))
	if err != api.OK || len(l) != 4096 {
		t.Errorf("Clauses: %d, %v", len(l), err)
	}
	for k := range l { // no two of them share memory
		l[k] = append(l[k], 0)
		if k > 0 && len(l[k]) != len(l[k-1]) {
			t.Errorf("the clause %d has %d literals", k, len(l[k]))
		}
	}
	first := diagram.Cube(1, 0)
	oneMore := parity(14).Xor(first).And(first) // a path without the first feature, and 4096 with it
	for _, set := range []diagram.D{oneMore, parity(14), parity(24), parity(14).Not()} {
		if l, err := formula.Clauses(set); len(l) != 0 || err != api.ErrLimit {
			t.Errorf("Clauses: %d, %v", len(l), err)
		}
	}
}
