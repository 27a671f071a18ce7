package diagram_test

import (
	"math"
	"slices"
	"testing"

	"motley/api"
	"motley/diagram"
)

func sameNodes(t *testing.T, what string, a, b diagram.D, want bool) {
	t.Helper()
	l, root := a.Nodes()
	m, place := b.Nodes()
	if (slices.Equal(l, m) && root == place) != want {
		t.Errorf("%s: equal nodes: not %t", what, want)
	}
}

// chapter is a.And(b).Or(c) of the chapter's examples.
func chapter(t *testing.T) diagram.D {
	t.Helper()
	return variable(t, 0).And(variable(t, 1)).Or(variable(t, 2))
}

// P1.6

func TestNodes(t *testing.T) {
	l, root := chapter(t).Nodes()
	want := []api.Decision{{Var: 2, Low: 0, High: 1}, {Var: 1, Low: 2, High: 1}, {Var: 0, Low: 2, High: 3}}
	if !slices.Equal(l, want) || root != 4 || chapter(t).Size() != 3 {
		t.Errorf("nodes of the example: %v, %d", l, root)
	}
	if l, root := diagram.False().Nodes(); len(l) != 0 || root != 0 || diagram.False().Size() != 0 {
		t.Errorf("nodes of the empty set: %v, %d", l, root)
	}
	if l, root := diagram.True().Nodes(); len(l) != 0 || root != 1 || diagram.True().Size() != 0 {
		t.Errorf("nodes of the full set: %v, %d", l, root)
	}
	for _, x := range tables(200) {
		wantNodes(t, "a table", x.set(), x)
	}
}

func TestNodesAreNewMemory(t *testing.T) {
	a := chapter(t)
	l, _ := a.Nodes()
	l[0] = api.Decision{Var: 9}
	_ = append(l[:1], api.Decision{}, api.Decision{})
	if again, _ := a.Nodes(); again[0] != (api.Decision{Var: 2, Low: 0, High: 1}) || again[1].Var != 1 {
		t.Errorf("the list is shared: %v", again)
	}
}

func TestOfNodes(t *testing.T) {
	for _, x := range tables(100) {
		l, root := x.set().Nodes()
		kept := slices.Clone(l)
		d, e := diagram.Of(l, root)
		if e != api.OK || !slices.Equal(l, kept) {
			t.Errorf("Of: %v, list %v", e, l)
		}
		wantTable(t, "Of what Nodes returns", d, x)
	}
	for root, want := range []table{0, ^table(0)} {
		d, e := diagram.Of(nil, root)
		if e != api.OK {
			t.Errorf("Of(nil, %d): %v", root, e)
		}
		wantTable(t, "Of none", d, want)
	}
}

// TestOfAnyList has lists with elements that are equal, that have equal children, and that are not used.
func TestOfAnyList(t *testing.T) {
	d := dice(4711)
	for range 300 {
		var l []api.Decision
		sets := []table{0, ^table(0)}
		for j := 5; j >= 0; j-- {
			below := len(sets)
			for range 4 {
				low, high := int(d.next())%below, int(d.next())%below
				low, high = max(low, -low), max(high, -high)
				l = append(l, api.Decision{Var: places[j], Low: low, High: high})
				with := variableTable(j)
				sets = append(sets, sets[low]&^with|sets[high]&with)
			}
		}
		for root, want := range sets {
			got, e := diagram.Of(l, root)
			if e != api.OK {
				t.Fatalf("Of(%v, %d): %v", l, root, e)
			}
			wantTable(t, "Of any list", got, want)
		}
	}
}

func TestOfErrors(t *testing.T) {
	good := api.Decision{Var: 23, Low: 0, High: 1}
	type list = []api.Decision
	cases := []struct {
		name string
		l    list
		root int
		want api.Errno
	}{
		{"root below", nil, -1, api.ErrRange},
		{"root above, no elements", nil, 2, api.ErrRange},
		{"root above", list{good}, 3, api.ErrRange},
		{"the greatest root", list{good}, 2, api.OK},
		{"root far above", list{good}, math.MaxInt, api.ErrRange},
		{"root far below", list{good}, math.MinInt, api.ErrRange},
		{"variable below", list{{Var: -1, Low: 0, High: 1}}, 2, api.ErrForm},
		{"variable above", list{{Var: 24, Low: 0, High: 1}}, 2, api.ErrForm},
		{"variable far above", list{{Var: 256, Low: 0, High: 1}}, 2, api.ErrForm},
		{"low below", list{{Var: 0, Low: -1, High: 1}}, 2, api.ErrForm},
		{"high below", list{{Var: 0, Low: 1, High: -1}}, 2, api.ErrForm},
		{"low is itself", list{{Var: 0, Low: 2, High: 1}}, 2, api.ErrForm},
		{"high is itself", list{good, {Var: 0, Low: 1, High: 3}}, 3, api.ErrForm},
		{"high is later", list{{Var: 0, Low: 1, High: 3}, good}, 3, api.ErrForm},
		{"low far above", list{{Var: 0, Low: math.MaxInt, High: 0}}, 2, api.ErrForm},
		{"low with the same variable", list{{Var: 5, Low: 0, High: 1}, {Var: 5, Low: 2, High: 1}}, 3, api.ErrForm},
		{"high with the same variable", list{{Var: 5, Low: 0, High: 1}, {Var: 5, Low: 0, High: 2}}, 3, api.ErrForm},
		{"low with a smaller variable", list{{Var: 4, Low: 0, High: 1}, {Var: 5, Low: 2, High: 1}}, 3, api.ErrForm},
		{"high with a smaller variable", list{{Var: 4, Low: 0, High: 1}, {Var: 5, Low: 1, High: 2}}, 3, api.ErrForm},
		{"an error that is not used", list{{Var: 24}}, 1, api.ErrForm},
		{"an error in the last one", list{good, good, {Var: 23, Low: 0, High: 3}}, 2, api.ErrForm},
		{"form before range", list{{Var: 24}}, 9, api.ErrForm},
		{"the longest list", slices.Repeat(list{good}, api.MaxDecisions), api.MaxDecisions + 1, api.OK},
		{"a list too long", slices.Repeat(list{good}, api.MaxDecisions+1), 2, api.ErrLimit},
		{"limit before form and range", make(list, api.MaxDecisions+1), -1, api.ErrLimit},
		{"children 0 and 0", list{{}}, 2, api.OK},
	}
	for _, x := range cases {
		d, e := diagram.Of(x.l, x.root)
		if e != x.want {
			t.Errorf("%s: %v, want %v", x.name, e, x.want)
		}
		if e != api.OK && !d.Same(diagram.D{}) {
			t.Errorf("%s: an error with a set", x.name)
		}
	}
}

// P1.7

func TestFold(t *testing.T) {
	for _, x := range tables(60) {
		a := x.set()
		l, root := a.Nodes()
		var calls []api.Decision
		got := diagram.Fold(a, 0, 1, func(i, low, high int) int {
			calls = append(calls, api.Decision{Var: i, Low: low, High: high})
			return len(calls) + 1
		})
		if got != root || !slices.Equal(calls, l) {
			t.Errorf("Fold: %d with the calls %v, want %d with %v", got, calls, root, l)
		}
	}
}

func TestFoldOfAnyType(t *testing.T) {
	got := diagram.Fold(chapter(t), "-", "+", func(i int, low, high string) string {
		return "(" + string(rune('a'+i)) + low + high + ")"
	})
	if got != "(a(c-+)(b(c-+)+))" {
		t.Errorf("Fold: %s", got)
	}
}

func TestFoldWithoutJoin(t *testing.T) {
	if diagram.Fold(diagram.False(), 5, 6, nil) != 5 || diagram.Fold(diagram.True(), 5, 6, nil) != 6 {
		t.Error("join is needed for no node")
	}
	if got := diagram.Fold(chapter(t), 5, 6, nil); got != 0 {
		t.Errorf("Fold without join: %d", got)
	}
	if got := diagram.Fold(chapter(t), 5, 6, func(int, int, int) int { panic("join") }); got != 0 {
		t.Errorf("Fold with a join that panics: %d", got)
	}
}
