package formula_test

import (
	"runtime/debug"
	"slices"
	"strings"
	"testing"

	"motley/api"
	"motley/formula"
)

// P2.3

func TestValidShapes(t *testing.T) {
	for op := range 256 {
		for kids := range 6 {
			for _, s := range []string{"", "a", "1", strings.Repeat("n", 32), strings.Repeat("n", 33)} {
				e := api.Expr{Op: uint8(op), Name: s, Kids: slices.Repeat([]api.Expr{name("k")}, kids)}
				isNamed := s == "a" || len(s) == 32
				want := op == int(api.OpName) && isNamed && kids == 0
				switch uint8(op) {
				case api.OpFalse, api.OpTrue:
					want = s == "" && kids == 0
				case api.OpNot:
					want = s == "" && kids == 1
				case api.OpAnd, api.OpOr, api.OpXor:
					want = s == "" && kids >= 2
				case api.OpImplies, api.OpSame:
					want = s == "" && kids == 2
				case api.OpChoice:
					want = s == "" && kids == 3
				}
				if formula.Valid(e) != want {
					t.Errorf("Valid of the operator %d, the name %q and %d kids: %t", op, s, kids, !want)
				}
				if below := node(api.OpOr, name("x"), node(api.OpNot, e)); formula.Valid(below) != want {
					t.Errorf("Valid with the operator %d, the name %q and %d kids below: %t", op, s, kids, !want)
				}
			}
		}
	}
	if formula.Valid(api.Expr{}) || !formula.Valid(api.Expr{Op: api.OpTrue, Kids: []api.Expr{}}) {
		t.Error("Valid of a node that is zero, or of one with an empty list of kids")
	}
}

func TestValidLimits(t *testing.T) {
	below := clone(wide(500)) // 501 nodes
	for _, x := range []struct {
		name string
		e    api.Expr
		want bool
	}{
		{"1000 nodes in a row", wide(999), true},
		{"1001 nodes in a row", wide(1000), false},
		{"very many nodes in a row", wide(100_000), false},
		{"1000 nodes", node(api.OpOr, wide(498), wide(499)), true},
		{"1001 nodes", node(api.OpOr, wide(499), wide(499)), false},
		{"nodes that are shared count each time", node(api.OpOr, below, below), false},
		{"64 levels", tower(63), true},
		{"65 levels", tower(64), false},
		{"very many levels", tower(1_000_000), false},
		{"64 levels at the end", node(api.OpOr, name("a"), tower(62)), true},
		{"65 levels at the end", node(api.OpOr, name("a"), tower(63)), false},
	} {
		if formula.Valid(x.e) != x.want {
			t.Errorf("Valid, %s: %t", x.name, !x.want)
		}
	}
	for _, e := range trees(300, someNames(8)) {
		if !formula.Valid(e) {
			t.Errorf("Valid of %v", e)
		}
	}
}

// anyTree is a tree that need not be valid.
func (d *dice) anyTree(levels int) api.Expr {
	e := api.Expr{Op: uint8(d.roll(5))}
	if d.roll(2) == 0 {
		e.Name = []string{"", "a", "b", "c", "1", "a b"}[d.roll(6)]
	}
	if levels > 1 {
		for range d.roll(4) {
			e.Kids = append(e.Kids, d.anyTree(levels-1))
		}
	}
	return e
}

func levelsOf(e api.Expr) int {
	most := 0
	for _, kid := range e.Kids {
		most = max(most, levelsOf(kid))
	}
	return most + 1
}

func namesOf(e api.Expr, l []string) []string {
	if e.Op == api.OpName && !slices.Contains(l, e.Name) {
		l = append(l, e.Name)
	}
	for _, kid := range e.Kids {
		l = namesOf(kid, l)
	}
	return l
}

func TestSizeAndNames(t *testing.T) {
	d := dice(31)
	for k := range 2000 {
		e := d.anyTree(1 + k%6)
		before := clone(e)
		if nodes, levels := formula.Size(e); nodes != countNodes(e) || levels != levelsOf(e) {
			t.Errorf("Size of %v: %d, %d", e, nodes, levels)
		}
		if got := formula.Names(e); !slices.Equal(got, namesOf(e, nil)) {
			t.Errorf("Names of %v: %q", e, got)
		}
		if !equal(e, before) {
			t.Fatal("the tree is changed")
		}
	}
	e := node(api.OpChoice, name("c"), node(api.OpNot, name("a")), node(api.OpOr, name("b"), name("c"), name("a")))
	if nodes, levels := formula.Size(e); nodes != 8 || levels != 3 {
		t.Errorf("Size: %d, %d", nodes, levels)
	}
	if got := formula.Names(e); !slices.Equal(got, []string{"c", "a", "b"}) {
		t.Errorf("Names: %q", got)
	}
	if nodes, levels := formula.Size(api.Expr{}); nodes != 1 || levels != 1 || len(formula.Names(api.Expr{})) != 0 {
		t.Errorf("Size of a node that is zero: %d, %d", nodes, levels)
	}
	outer := api.Expr{Op: api.OpName, Name: "outer", Kids: []api.Expr{name("first"), name(""), name("outer")}}
	if got := formula.Names(outer); !slices.Equal(got, []string{"outer", "first", ""}) {
		t.Errorf("Names, a node before its kids: %q", got)
	}
}

func TestSame(t *testing.T) {
	d := dice(17)
	var l []api.Expr
	for k := range 150 {
		l = append(l, d.anyTree(1+k%4))
	}
	for _, a := range l {
		if !formula.Same(a, clone(a)) {
			t.Errorf("%v and its copy", a)
		}
		for _, b := range l {
			if formula.Same(a, b) != equal(a, b) {
				t.Errorf("Same of %v and %v", a, b)
			}
		}
	}
	e := node(api.OpOr, name("a"), node(api.OpAnd, name("b"), name("c")))
	for _, other := range []api.Expr{
		node(api.OpOr, name("a"), node(api.OpAnd, name("b"), name("d"))),
		node(api.OpOr, name("a"), node(api.OpXor, name("b"), name("c"))),
		node(api.OpOr, node(api.OpAnd, name("b"), name("c")), name("a")),
		node(api.OpOr, name("a"), node(api.OpAnd, name("b"), name("c")), name("a")),
		node(api.OpOr, name("a"), name("b"), name("c")),
		{Op: api.OpOr, Name: "a", Kids: e.Kids},
	} {
		if formula.Same(e, other) || formula.Same(other, e) {
			t.Errorf("Same of %v and %v", e, other)
		}
	}
	if !formula.Same(api.Expr{Op: 1}, api.Expr{Op: 1, Kids: []api.Expr{}}) {
		t.Error("Same of no kids and an empty list of kids")
	}
}

// P1, P2.3: any tree.

func TestVeryDeepTrees(t *testing.T) {
	const nots = 400_000
	defer debug.SetMaxStack(debug.SetMaxStack(1 << 24)) // so that it shows if calls are nested as deep as the tree is
	a, b := tower(nots), tower(nots)
	if nodes, levels := formula.Size(a); nodes != nots+1 || levels != nots+1 {
		t.Errorf("Size: %d, %d", nodes, levels)
	}
	if got := formula.Names(a); !slices.Equal(got, []string{"a"}) {
		t.Errorf("Names: %q", got)
	}
	if !formula.Same(a, b) || formula.Same(a, tower(nots-1)) || formula.Valid(a) {
		t.Error("Same, or Valid")
	}
	if _, err := formula.Print(a); err != api.ErrArg {
		t.Errorf("Print: %v", err)
	}
}

func TestSharedNodes(t *testing.T) {
	double := func(e api.Expr) api.Expr { return node(api.OpOr, slices.Repeat([]api.Expr{e}, 2)...) }
	a, b := name("a"), name("a")
	for range 40 {
		a, b = double(a), double(b)
	}
	if nodes, levels := formula.Size(a); nodes != 1<<41-1 || levels != 41 {
		t.Errorf("Size: %d, %d", nodes, levels)
	}
	if got := formula.Names(a); !slices.Equal(got, []string{"a"}) {
		t.Errorf("Names: %q", got)
	}
	one, two := []api.Expr{name("a"), name("b")}, []api.Expr{name("c"), {}}
	two[1] = node(api.OpNot, one[:1]...) // the list is within one that is further up
	one[1] = node(api.OpAnd, two...)
	e := node(api.OpOr, one...)
	if nodes, levels := formula.Size(e); nodes != countNodes(e) || levels != levelsOf(e) {
		t.Errorf("Size, lists that overlap: %d, %d", nodes, levels)
	}
}

func TestNodesBelowThemselves(t *testing.T) {
	circle := func(length int) api.Expr {
		kids := make([][]api.Expr, length)
		for k := range kids {
			kids[k] = []api.Expr{name("a"), {}}
		}
		for k := range kids {
			kids[k][1] = node(api.OpAnd, kids[(k+1)%length]...)
		}
		return kids[0][1]
	}
	a, b := circle(2), circle(3)
	formula.Size(a)
	formula.Same(a, b)
	if got := formula.Names(a); !slices.Equal(got, []string{"a"}) {
		t.Errorf("Names: %q", got)
	}
	if formula.Same(a, wide(2)) || formula.Valid(a) {
		t.Error("Same, or Valid")
	}
	if _, err := formula.Replace(a, "a", name("b")); err != api.ErrArg {
		t.Errorf("Replace: %v", err)
	}
}

// P2.6

func substitute(e api.Expr, s string, by api.Expr) api.Expr {
	if e.Op == api.OpName && e.Name == s {
		return clone(by)
	}
	e = clone(e)
	for k := range e.Kids {
		e.Kids[k] = substitute(e.Kids[k], s, by)
	}
	return e
}

func TestReplace(t *testing.T) {
	names := someNames(4)
	l := trees(120, names)
	for k, e := range l {
		by := l[(k*7+3)%len(l)]
		e, by := clone(e), clone(by)
		for _, s := range names {
			want, err := substitute(e, s, by), api.OK
			if !formula.Valid(want) {
				want, err = api.Expr{}, api.ErrLimit
			}
			got, e1 := formula.Replace(e, s, by)
			if e1 != err || !equal(got, want) {
				t.Errorf("Replace(%v, %q, %v): %v, %v", e, s, by, got, e1)
			}
			spoil(&got)
			if !equal(e, l[k]) || !equal(by, l[(k*7+3)%len(l)]) {
				t.Fatal("an argument is changed, or shares memory with the result")
			}
		}
	}
}

func TestReplaceTwice(t *testing.T) {
	by := node(api.OpNot, name("b"))
	got, err := formula.Replace(node(api.OpXor, name("a"), name("b"), name("a")), "a", by)
	want := node(api.OpXor, by, name("b"), by)
	if err != api.OK || !equal(got, want) {
		t.Errorf("Replace: %v, %v", got, err)
	}
	got.Kids[0].Kids[0] = name("c")
	if got.Kids[2].Kids[0].Name != "b" || by.Kids[0].Name != "b" {
		t.Error("both places share memory")
	}
	if got, err := formula.Replace(name("a"), "a", node(api.OpOr, name("a"), name("a"))); err != api.OK || !equal(got, node(api.OpOr, name("a"), name("a"))) {
		t.Errorf("Replace of a name by a formula with it: %v, %v", got, err)
	}
}

func TestReplaceErrors(t *testing.T) {
	bad := node(api.OpNot)
	for _, x := range []struct {
		what  string
		e, by api.Expr
		name  string
		want  api.Errno
	}{
		{"a formula that is not valid", bad, name("b"), "a", api.ErrArg},
		{"another one that is not valid", name("a"), bad, "a", api.ErrArg},
		{"not valid, though it is not put in", name("a"), bad, "b", api.ErrArg},
		{"not valid, and no name", name("a"), bad, "1", api.ErrArg},
		{"no name", name("a"), name("b"), "1", api.ErrName},
		{"an empty name", name("a"), name("b"), "", api.ErrName},
		{"a name that is too long", name("a"), name("b"), strings.Repeat("a", 33), api.ErrName},
		{"no name, and too many nodes", wide(999), tower(1), "a b", api.ErrName},
		{"a name that is as long as can be", name("a"), name("b"), strings.Repeat("a", 32), api.OK},
		{"1000 nodes", node(api.OpAnd, wide(498), name("x")), wide(499), "x", api.OK},
		{"1001 nodes", node(api.OpAnd, wide(499), name("x")), wide(499), "x", api.ErrLimit},
		{"very many nodes", wide(999), wide(999), "a", api.ErrLimit},
		{"64 levels", tower(30), tower(33), "a", api.OK},
		{"65 levels", tower(30), tower(34), "a", api.ErrLimit},
		{"nothing to replace", wide(999), wide(999), "b", api.OK},
	} {
		got, err := formula.Replace(x.e, x.name, x.by)
		if err != x.want || err != api.OK && !equal(got, api.Expr{}) {
			t.Errorf("Replace, %s: %v, want %v", x.what, err, x.want)
		}
	}
}
