package syntax_test

import (
	"cmp"
	"slices"
	"strings"
	"testing"

	"motley/api"
	"motley/diagram"
	"motley/syntax"
)

// someKids are nodes that are made by dice, without regard to what is valid.
func someKids(d *dice, levels int) []syntax.Node {
	var l []syntax.Node
	if levels == 0 {
		return l
	}
	for range d.roll(4) {
		l = append(l, syntax.Node{
			Kind: uint8(d.roll(3)), Text: pick(d, "", "x", "y"), Tok: d.roll(3) - 1, Slot: d.roll(3) - 1,
			Kids: someKids(d, levels-1), Cond: someCond(d),
		})
	}
	return l
}

func someCond(d *dice) diagram.D {
	return pick(d, diagram.False(), diagram.True(), diagram.Cube(1, 0), diagram.Cube(0, 1), someSet(d, features), someSet(d, features))
}

func someTree(d *dice) syntax.Tree {
	t := syntax.Tree{Kids: someKids(d, 4)}
	for range d.roll(5) {
		t.Diags = append(t.Diags, syntax.Diag{Code: api.Code(d.roll(3)), Tok: d.roll(4) - 1, Cond: someCond(d)})
	}
	return t
}

func eachTree(count int, check func(t syntax.Tree, d *dice)) {
	d := newDice()
	for range count {
		check(someTree(d), d)
	}
}

// chosen are nodes with other conditions; those that have none then are left out.
func chosen(l []syntax.Node, change func(diagram.D) diagram.D) []syntax.Node {
	var out []syntax.Node
	for _, n := range l {
		if cond := change(n.Cond); !cond.Empty() {
			n.Cond, n.Kids = cond, chosen(n.Kids, change)
			out = append(out, n)
		}
	}
	return out
}

func chosenTree(t syntax.Tree, change func(diagram.D) diagram.D) syntax.Tree {
	out := syntax.Tree{Kids: chosen(t.Kids, change)}
	for _, g := range t.Diags {
		if cond := change(g.Cond); !cond.Empty() {
			g.Cond = cond
			out.Diags = append(out.Diags, g)
		}
	}
	return out
}

func itself(d diagram.D) diagram.D { return d }

// equal reports whether nodes are equal in all fields.
func equal(a, b []syntax.Node) bool {
	return slices.EqualFunc(a, b, func(x, y syntax.Node) bool {
		return x.Kind == y.Kind && x.Text == y.Text && x.Tok == y.Tok && x.Slot == y.Slot && x.Cond.Same(y.Cond) && equal(x.Kids, y.Kids)
	})
}

func equalTrees(a, b syntax.Tree) bool {
	return equal(a.Kids, b.Kids) && slices.EqualFunc(a.Diags, b.Diags, func(x, y syntax.Diag) bool {
		return x.Code == y.Code && x.Tok == y.Tok && x.Cond.Same(y.Cond)
	})
}

// P7.2

func TestProject(t *testing.T) {
	eachTree(300, func(x syntax.Tree, d *dice) {
		for c := range uint32(8) {
			want := chosenTree(x, func(d diagram.D) diagram.D {
				if d.Has(c) {
					return diagram.True()
				}
				return diagram.False()
			})
			for _, more := range []uint32{0, 8, 1 << 23, 1 << 24, 1 << 31} {
				if got := syntax.Project(x, c|more); !equalTrees(got, want) {
					t.Fatalf("%s, %b: %s, want %s", outcome(x), c, outcome(got), outcome(want))
				}
			}
		}
	})
}

func TestRestrict(t *testing.T) {
	eachTree(500, func(x syntax.Tree, d *dice) {
		cond := someCond(d)
		want := chosenTree(x, func(d diagram.D) diagram.D { return d.And(cond) })
		if got := syntax.Restrict(x, cond); !equalTrees(got, want) {
			t.Fatalf("%s: %s, want %s", outcome(x), outcome(got), outcome(want))
		}
	})
}

// mergeReference is the merge as the chapter tells it; nodes with empty conditions have been left out before.
func mergeReference(l []syntax.Node) []syntax.Node {
	order := func(a, b syntax.Node) int {
		return cmp.Or(a.Slot-b.Slot, a.Tok-b.Tok, int(a.Kind)-int(b.Kind), strings.Compare(a.Text, b.Text))
	}
	l = slices.Clone(l)
	slices.SortStableFunc(l, order)
	var out []syntax.Node
	for _, n := range l {
		if last := len(out) - 1; last >= 0 && order(out[last], n) == 0 {
			out[last].Cond = out[last].Cond.Or(n.Cond)
			out[last].Kids = slices.Concat(out[last].Kids, n.Kids)
			continue
		}
		out = append(out, n)
	}
	for k := range out {
		out[k].Kids = mergeReference(out[k].Kids)
	}
	return out
}

func TestMerge(t *testing.T) {
	d := newDice()
	for range 500 {
		var l []syntax.Tree
		var all syntax.Tree
		for range d.roll(5) {
			x := someTree(d)
			l = append(l, x)
			x = chosenTree(x, itself)
			all.Kids = append(all.Kids, x.Kids...)
			all.Diags = append(all.Diags, x.Diags...)
		}
		want := syntax.Tree{Kids: mergeReference(all.Kids)}
		slices.SortStableFunc(all.Diags, func(a, b syntax.Diag) int { return cmp.Or(a.Tok-b.Tok, int(a.Code)-int(b.Code)) })
		for _, g := range all.Diags {
			if last := len(want.Diags) - 1; last >= 0 && want.Diags[last].Tok == g.Tok && want.Diags[last].Code == g.Code {
				want.Diags[last].Cond = want.Diags[last].Cond.Or(g.Cond)
				continue
			}
			want.Diags = append(want.Diags, g)
		}
		if got := syntax.Merge(l); !equalTrees(got, want) {
			t.Fatalf("%d trees: %s, want %s", len(l), outcome(got), outcome(want))
		}
	}
	if got := syntax.Merge(nil); len(got.Kids) != 0 || len(got.Diags) != 0 {
		t.Error("no trees:", outcome(got))
	}
}

func TestMergeOrder(t *testing.T) {
	var l []syntax.Node
	for _, x := range [][3]int{{1, 0, 0}, {0, 1, 0}, {0, 0, 5}, {0, 0, 4}, {-1, 7, 7}} {
		for _, text := range []string{"b", "B", "", "bb"} {
			l = append(l, syntax.Node{Slot: x[0], Tok: x[1], Kind: uint8(x[2]), Text: text, Cond: diagram.True()})
		}
	}
	got := ""
	for _, n := range syntax.Merge([]syntax.Tree{{Kids: l}}).Kids {
		got += " " + itoa(n.Slot) + itoa(n.Tok) + itoa(int(n.Kind)) + n.Text
	}
	if got != " -177 -177B -177b -177bb 004 004B 004b 004bb 005 005B 005b 005bb 010 010B 010b 010bb 100 100B 100b 100bb" {
		t.Error("the order:", got)
	}
}

func TestSame(t *testing.T) {
	a := diagram.Cube(1, 0)
	tree := func(change func(x *syntax.Tree)) syntax.Tree {
		kid := syntax.Node{Kind: 2, Text: "x", Tok: 3, Slot: 1, Cond: a}
		root := syntax.Node{Kind: 1, Text: "r", Tok: 1, Slot: 0, Kids: []syntax.Node{kid, kid}, Cond: a}
		x := syntax.Tree{Kids: []syntax.Node{root}, Diags: []syntax.Diag{{Code: 1, Tok: 2, Cond: a}, {Code: 2, Tok: 2, Cond: a}}}
		change(&x)
		return x
	}
	x := tree(func(*syntax.Tree) {})
	kid := func(x *syntax.Tree) *syntax.Node { return &x.Kids[0].Kids[1] }
	if !syntax.Same(x, tree(func(x *syntax.Tree) {
		kid(x).Kids = []syntax.Node{}
		kid(x).Cond = a.Or(diagram.Cube(2, 0)).And(a)
	})) {
		t.Error("an empty list, and a set that is made in another way")
	}
	if !syntax.Same(syntax.Tree{}, syntax.Tree{Kids: []syntax.Node{}, Diags: []syntax.Diag{}}) {
		t.Error("empty trees")
	}
	for k, other := range []func(x *syntax.Tree){
		func(x *syntax.Tree) { x.Kids = nil },
		func(x *syntax.Tree) { x.Kids = append(x.Kids, x.Kids[0]) },
		func(x *syntax.Tree) { x.Kids[0].Kids = x.Kids[0].Kids[:1] },
		func(x *syntax.Tree) { kid(x).Kind++ },
		func(x *syntax.Tree) { kid(x).Text = "y" },
		func(x *syntax.Tree) { kid(x).Tok++ },
		func(x *syntax.Tree) { kid(x).Slot++ },
		func(x *syntax.Tree) { kid(x).Cond = diagram.True() },
		func(x *syntax.Tree) { kid(x).Kids = []syntax.Node{{}} },
		func(x *syntax.Tree) { x.Diags = x.Diags[:1] },
		func(x *syntax.Tree) { x.Diags[0], x.Diags[1] = x.Diags[1], x.Diags[0] },
		func(x *syntax.Tree) { x.Diags[1].Code++ },
		func(x *syntax.Tree) { x.Diags[1].Tok++ },
		func(x *syntax.Tree) { x.Diags[1].Cond = diagram.True() },
	} {
		if y := tree(other); syntax.Same(x, y) || syntax.Same(y, x) || !syntax.Same(y, tree(other)) {
			t.Error("change", k)
		}
	}
	var last syntax.Tree
	eachTree(300, func(x syntax.Tree, _ *dice) {
		if syntax.Same(x, last) != equalTrees(x, last) || !syntax.Same(x, x) {
			t.Fatalf("%s and %s", outcome(x), outcome(last))
		}
		last = x
	})
}

func TestWhole(t *testing.T) {
	eachTree(300, func(x syntax.Tree, _ *dice) {
		want := diagram.False()
		for _, n := range x.Kids {
			want = want.Or(n.Cond)
		}
		if !syntax.Whole(x).Same(want) {
			t.Fatal(outcome(x))
		}
	})
	if !syntax.Whole(syntax.Tree{Diags: []syntax.Diag{{Cond: diagram.True()}}}).Empty() {
		t.Error("a tree without kids")
	}
}

// spoil changes all that a tree has.
func spoil(x syntax.Tree) {
	for k := range x.Kids {
		spoil(syntax.Tree{Kids: x.Kids[k].Kids})
		x.Kids[k] = syntax.Node{Text: "spoilt"}
	}
	for k := range x.Diags {
		x.Diags[k] = syntax.Diag{Tok: 77}
	}
}

// Results share no memory with arguments, and arguments are not changed.
func TestNewMemory(t *testing.T) {
	eachTree(200, func(x syntax.Tree, d *dice) {
		before := chosenTree(x, itself)
		all := syntax.Merge([]syntax.Tree{x})
		x = syntax.Merge([]syntax.Tree{x})
		for name, got := range map[string]syntax.Tree{
			"Project":  syntax.Project(x, 1),
			"Restrict": syntax.Restrict(x, diagram.True()),
			"Merge":    syntax.Merge([]syntax.Tree{x, before}),
		} {
			spoil(got)
			if !syntax.Same(x, all) {
				t.Fatal(name, "shares memory")
			}
		}
		for path, n := range syntax.Walk(x) {
			m, _ := syntax.At(x, path)
			spoil(syntax.Tree{Kids: []syntax.Node{n, m}})
			for k := range path {
				path[k] = -1
			}
		}
		if !syntax.Same(x, all) {
			t.Fatal("Walk or At shares memory")
		}
	})
	l := some(t, "var x : [a int ] [A bool ] ; }")
	before := syntax.Family(l, diagram.True())
	spoil(syntax.Family(l, diagram.True()))
	spoil(syntax.Plain(l, 1))
	if words(l) != "var x : int[170] bool[85] ; }" || !syntax.Same(syntax.Family(l, diagram.True()), before) {
		t.Error("the list was changed:", words(l))
	}
}

// A tree may be much deeper than a valid one.
func TestDeepTrees(t *testing.T) {
	var x syntax.Tree
	const levels = 1 << 18
	for range levels {
		x.Kids = []syntax.Node{{Cond: diagram.True(), Kids: x.Kids}}
	}
	if nodes, n := syntax.Size(x); nodes != levels || n != levels {
		t.Error("Size:", nodes, n)
	}
	for name, y := range map[string]syntax.Tree{
		"Project":  syntax.Project(x, 0),
		"Restrict": syntax.Restrict(x, diagram.True()),
		"Merge":    syntax.Merge([]syntax.Tree{x, x}),
	} {
		if !syntax.Same(x, y) {
			t.Error(name)
		}
	}
	if syntax.Valid(x) {
		t.Error("Valid")
	}
	if n, e := syntax.At(x, make([]int, levels)); e != api.OK || len(n.Kids) != 0 {
		t.Error("At:", e)
	}
	for path := range syntax.Walk(syntax.Tree{Kids: []syntax.Node{{}, {}}}) {
		if len(path) != 1 {
			t.Error("Walk:", path)
		}
	}
}

// A value whose Kids lead back to a node above is no tree; but all functions end.
func TestLoops(t *testing.T) {
	loop := make([]syntax.Node, 2)
	loop[0] = syntax.Node{Kind: api.Program, Tok: -1, Cond: diagram.True(), Kids: loop[1:]}
	loop[1] = syntax.Node{Kind: api.Block, Cond: diagram.True(), Kids: loop}
	x := syntax.Tree{Kids: loop[:1], Diags: []syntax.Diag{{Tok: 1, Cond: diagram.True()}}}
	for _, y := range []syntax.Tree{syntax.Project(x, 0), syntax.Restrict(x, diagram.True()), syntax.Merge([]syntax.Tree{x})} {
		if len(y.Kids) != 0 || len(y.Diags) != 1 {
			t.Error("the tree of a loop:", outcome(y))
		}
	}
	nodes, levels := syntax.Size(x)
	for range syntax.Walk(x) {
		nodes++
	}
	_, e := syntax.At(x, []int{0})
	if nodes != 0 || levels != 0 || e != api.ErrNone || syntax.Valid(x) || !syntax.Same(x, x) || !syntax.Whole(x).Full() {
		t.Error("a loop:", nodes, levels, e)
	}
	_, e1 := syntax.Variants(x)
	_, e2 := syntax.Like(x, x, diagram.True())
	_, e3 := syntax.Print(x, 0)
	if e1 != api.ErrArg || e2 != api.ErrArg || e3 != api.ErrArg {
		t.Error("the errors of a loop:", e1, e2, e3)
	}
	shared := []syntax.Node{{Tok: 5, Cond: diagram.True()}} // this is no loop
	x = syntax.Tree{Kids: []syntax.Node{{Cond: diagram.True(), Kids: shared}, {Tok: 1, Cond: diagram.True(), Kids: shared}}}
	if nodes, levels := syntax.Size(x); nodes != 4 || levels != 2 || !syntax.Same(syntax.Project(x, 0), x) {
		t.Error("kids that are shared:", nodes, levels)
	}
}
