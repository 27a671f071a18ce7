package syntax_test

import (
	"slices"
	"testing"

	"motley/api"
	"motley/diagram"
	"motley/source"
	"motley/syntax"
)

// visit is a node with its path.
type visit struct {
	path []int
	node syntax.Node
}

// visits are all nodes below some, in order.
func visits(l []syntax.Node, before []int) []visit {
	var out []visit
	for k, n := range l {
		path := append(slices.Clone(before), k)
		out = append(out, visit{path, n})
		out = append(out, visits(n.Kids, path)...)
	}
	return out
}

// P7.3

func TestWalk(t *testing.T) {
	eachTree(300, func(x syntax.Tree, d *dice) {
		want := visits(x.Kids, nil)
		walk := syntax.Walk(x)
		for range 2 { // each run begins anew
			var paths [][]int
			k := 0
			for path, n := range walk {
				if !slices.Equal(path, want[k].path) || !equal([]syntax.Node{n}, []syntax.Node{want[k].node}) {
					t.Fatalf("%s: %v %s", outcome(x), path, shown(n))
				}
				paths = append(paths, path)
				k++
			}
			if k != len(want) {
				t.Fatalf("%s: %d nodes, want %d", outcome(x), k, len(want))
			}
			for k, path := range paths { // each is memory of its own
				if !slices.Equal(path, want[k].path) {
					t.Fatalf("%s: the path %v has become %v", outcome(x), want[k].path, path)
				}
			}
		}
		if len(want) > 0 {
			end, k := d.roll(len(want)), 0
			for range walk {
				if k == end {
					break
				}
				k++
			}
			if k != end {
				t.Fatal("an early end")
			}
		}
	})
}

func TestAt(t *testing.T) {
	eachTree(200, func(x syntax.Tree, _ *dice) {
		for _, v := range visits(x.Kids, nil) {
			n, e := syntax.At(x, v.path)
			if e != api.OK || !equal([]syntax.Node{n}, []syntax.Node{v.node}) {
				t.Fatalf("%s, %v: %s, %v", outcome(x), v.path, shown(n), e)
			}
			for _, wrong := range [][]int{
				append(slices.Clone(v.path), len(v.node.Kids)), append(slices.Clone(v.path), -1), append(slices.Clone(v.path), 1<<40),
			} {
				if n, e := syntax.At(x, wrong); e != api.ErrNone || shown(n) != shown(syntax.Node{}) {
					t.Fatalf("%s, %v: %s, %v", outcome(x), wrong, shown(n), e)
				}
			}
		}
		for _, wrong := range [][]int{nil, {}, {-1}, {len(x.Kids)}} {
			if _, e := syntax.At(x, wrong); e != api.ErrNone {
				t.Fatalf("%s, %v: %v", outcome(x), wrong, e)
			}
		}
	})
}

func TestSize(t *testing.T) {
	eachTree(300, func(x syntax.Tree, _ *dice) {
		want, deepest := visits(x.Kids, nil), 0
		for _, v := range want {
			deepest = max(deepest, len(v.path))
		}
		if nodes, levels := syntax.Size(x); nodes != len(want) || levels != deepest {
			t.Fatalf("%s: %d nodes, %d levels", outcome(x), nodes, levels)
		}
	})
	if nodes, levels := syntax.Size(syntax.Tree{Diags: []syntax.Diag{{}}}); nodes != 0 || levels != 0 {
		t.Error("no nodes:", nodes, levels)
	}
}

// P7.4

func TestVariants(t *testing.T) {
	a, b, all := diagram.Cube(1, 0), diagram.Cube(2, 0), diagram.True()
	x := parsed(t, "[a var x : [b int ] [B bool ] ; ] fn f ( [b y : int ] ) { g ( 1 [a + 2 ] [A , 3 ] ) ; [b return ; ] }")
	got, e := syntax.Variants(x)
	want := []syntax.Variant{
		{Path: []int{0}, Slot: 0, Conds: []diagram.D{a, all}},
		{Path: []int{0, 0}, Slot: 0, Conds: []diagram.D{a.And(b), a.And(b.Not())}},
		{Path: []int{0, 1}, Slot: 0, Conds: []diagram.D{b}},
		{Path: []int{0, 1, 1}, Slot: 0, Conds: []diagram.D{all, b}},
		{Path: []int{0, 1, 1, 0}, Slot: 0, Conds: []diagram.D{a.Not(), a, a.Not()}},
	}
	same := func(x, y syntax.Variant) bool {
		return slices.Equal(x.Path, y.Path) && x.Slot == y.Slot && slices.EqualFunc(x.Conds, y.Conds, diagram.D.Same)
	}
	if e != api.OK || !slices.EqualFunc(got, want, same) {
		t.Errorf("%s: %v, want %v; %v", outcome(x), got, want, e)
	}
	// Several slots of one node; and no value in some configurations.
	x = syntax.Family(some(t, "var x : [a int ] [A bool ] [a = 1 ] ;"), a.Or(b))
	got, _ = syntax.Variants(x)
	if len(got) != 2 || got[0].Slot != 0 || got[1].Slot != 1 || len(got[1].Conds) != 1 || !slices.Equal(got[1].Path, []int{0, 0}) {
		t.Errorf("two slots: %v", got)
	}
	// The kids of the tree are no such place: only a has a program.
	x = parsed(t, "fn f ( ) { [a } ]")
	if got, e := syntax.Variants(x); e != api.OK || len(got) != 0 {
		t.Errorf("a program in some configurations only: %v, %v", got, e)
	}
	if got, e := syntax.Variants(syntax.Tree{Kids: []syntax.Node{{}}}); e != api.ErrArg || len(got) != 0 {
		t.Error("a tree that is not valid:", got, e)
	}
}

// alike compares two nodes apart from their Toks.
func alike(a, b []syntax.Node) bool {
	return slices.EqualFunc(a, b, func(x, y syntax.Node) bool {
		return x.Kind == y.Kind && x.Text == y.Text && x.Slot == y.Slot && alike(x.Kids, y.Kids)
	})
}

// P7.5

func TestLike(t *testing.T) {
	d := newDice()
	some, most := 0, 0
	for range 600 {
		l := someList(t, d, features, d.roll(2))
		other := source.List{Tokens: slices.Clone(l.Tokens)}
		for range d.roll(3) { // another version of the same list
			if len(other.Tokens) > 0 {
				k := d.roll(len(other.Tokens))
				switch d.roll(3) {
				case 0:
					other.Tokens[k].Cond = other.Tokens[k].Cond.And(someSet(d, features))
				case 1:
					other.Tokens[k].Text = pick(d, "x", "y", "1", "int", "bool", "+", "-")
				default:
					from, to := somePiece(d, other.Tokens)
					other.Tokens = slices.Insert(other.Tokens, from, slices.Clone(other.Tokens[from:to])...)
				}
			}
		}
		a, b := syntax.Family(l, diagram.True()), syntax.Family(other, someCond(d).Or(diagram.Cube(1, 0)))
		within := someCond(d)
		got, e := syntax.Like(a, b, within)
		want := set(features, func(c uint32) bool {
			return within.Has(c) && alike(syntax.Project(a, c).Kids, syntax.Project(b, c).Kids)
		})
		if e != api.OK || !got.Same(want) {
			t.Fatalf("%s and %s: %v", words(l), words(other), e)
		}
		if !got.Empty() && !got.Same(within) {
			some++
		}
		if got.Same(within) {
			most++
		}
	}
	if some < 100 || most < 100 {
		t.Error("too few trees that are alike in some configurations, or in all:", some, most)
	}
}

func TestLikeIgnoresToks(t *testing.T) {
	a := plain(t, "fn f ( a : int ) { print - ( 1 + 2 ) ; }")
	for text, want := range map[string]bool{
		"fn f ( a : int ) { print - ( ( ( 1 ) + 2 ) ) ; }":      true,
		"[c ; ] fn f ( a : int ) { print - ( 1 + 2 ) ; }":       true,
		"fn f ( a : int ) { print - ( 1 + 3 ) ; }":              false,
		"fn f ( a : int ) { print - 1 + 2 ; }":                  false,
		"fn f ( a : int ) { print - ( 1 - 2 ) ; }":              false,
		"fn f ( a : int ) { assert - ( 1 + 2 ) ; }":             false,
		"fn f ( a : int ) { print - ( 1 + 2 ) ; { } }":          false,
		"fn f ( a : int ) : int { print - ( 1 + 2 ) ; }":        false,
		"fn f ( ) { print - ( 1 + 2 ) ; }":                      false,
		"fn f ( a : int ) { print - ( 1 + 2 ) ; } fn g ( ) { }": false,
		"fn f ( a : int ) {":                                    false,
		"":                                                      false,
	} {
		b := syntax.Plain(some(t, text), 0)
		for _, pair := range [][2]syntax.Tree{{a, b}, {b, a}} {
			if d, e := syntax.Like(pair[0], pair[1], diagram.True()); e != api.OK || d.Full() != want || d.Empty() == want {
				t.Errorf("%s: %v, %v", text, d.Full(), e)
			}
		}
	}
	// The same words in other slots, and on other levels.
	for _, pair := range [][2]string{
		{"fn f ( ) { if ( x ) { } { } }", "fn f ( ) { if ( x ) { } else { } }"},
		{"fn f ( ) { { { } } }", "fn f ( ) { { } { } }"},
		{"fn f ( ) { f ( f ( ) , 1 ) ; }", "fn f ( ) { f ( f ( 1 ) ) ; }"},
		{"fn f ( ) { print 1 - 2 - 3 ; }", "fn f ( ) { print 1 - ( 2 - 3 ) ; }"},
	} {
		if d, e := syntax.Like(plain(t, pair[0]), plain(t, pair[1]), diagram.True()); e != api.OK || !d.Empty() {
			t.Errorf("%s and %s: %v, %v", pair[0], pair[1], d.Full(), e)
		}
	}
	// Where neither has a program both are alike, whatever their errors are.
	if d, e := syntax.Like(plain(t, "print"), plain(t, "var"), diagram.Cube(1, 0)); e != api.OK || !d.Same(diagram.Cube(1, 0)) {
		t.Error("no programs:", e)
	}
	if d, e := syntax.Like(syntax.Tree{}, parsed(t, "[a } ]"), diagram.True()); e != api.OK || !d.Same(diagram.Cube(1, 0)) {
		t.Error("no tree at all:", e)
	}
	wrong := syntax.Tree{Kids: []syntax.Node{{}}}
	for _, pair := range [][2]syntax.Tree{{wrong, a}, {a, wrong}} {
		if d, e := syntax.Like(pair[0], pair[1], diagram.True()); e != api.ErrArg || !d.Empty() {
			t.Error("a tree that is not valid:", e)
		}
	}
}
