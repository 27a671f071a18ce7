package run_test

import (
	"slices"
	"testing"

	"motley/api"
	"motley/check"
	"motley/diagram"
	"motley/run"
	"motley/source"
	"motley/syntax"
)

// P9.1

func TestBuild(t *testing.T) {
	const text = "#ifdef A\n#error\n#endif\n#ifdef B\nprint\n#endif\nfn main() {\n#ifdef C\nprint x;\n#endif\nprint 1; }"
	for _, within := range []diagram.D{all, none, inA, notA, inB.Not()} {
		b, e := run.Build(files(text), featureNames, within)
		list, _ := source.Family(files(text), featureNames, within)
		tree := syntax.Family(list, within)
		facts, _ := check.Family(tree, within)
		if e != api.OK || !source.Same(b.List, list) || !syntax.Same(b.Tree, tree) || !check.Same(b.Facts, facts) {
			t.Error("Build:", e)
		}
		if want := within.And(diagram.Cube(0, 7)); !b.Good.Same(want) {
			t.Error("Good:", b.Good, want)
		}
	}
}

func TestBuildErrors(t *testing.T) {
	main := api.File{Name: "main", Text: "fn main() { }"}
	for _, x := range []struct {
		files []api.File
		names []string
		want  api.Errno
	}{
		{nil, nil, api.ErrArg},
		{[]api.File{main, main}, nil, api.ErrTwice},
		{files("#endif"), nil, api.ErrState},
		{files("@"), nil, api.ErrForm},
		{[]api.File{main}, []string{"1"}, api.ErrName},
		{[]api.File{main}, make([]string, 25), api.ErrLimit},
		{files("#include \"main\""), nil, api.ErrCycle},
	} {
		b, e := run.Build(x.files, x.names, all)
		if e != x.want || len(b.List.Tokens)+len(b.Tree.Kids)+len(b.Facts) > 0 || !b.Good.Empty() {
			t.Errorf("%v: %v, want %v", x.files, e, x.want)
		}
	}
}

// P9.14

func TestPrinted(t *testing.T) {
	eachSource(t, 64, func(text string, b run.Built, m *maker) {
		in, fuel := m.inputs(), pick(m.dice, m.roll(30), 300)
		for c := range all.All(features) {
			printed, e := syntax.Print(b.Tree, c)
			if e != api.OK {
				continue
			}
			again, e := run.Build(files(printed), nil, all)
			if e != api.OK {
				t.Fatalf("%s\nprinted: %v", printed, e)
			}
			o, p := plain(t, b.Tree, c, in, fuel), plain(t, again.Tree, 0, in, fuel)
			if o.Tok = p.Tok; !equal(o, p) {
				t.Fatalf("%s\n%b: %s\nprinted: %s", text, c, shown(o), shown(p))
			}
		}
	})
}

// P9.15

func TestChain(t *testing.T) {
	eachSource(t, 64, func(text string, b run.Built, m *maker) {
		if m.roll(4) == 0 {
			text += m.between("#error")
			b = built(t, text)
		}
		in, fuel := m.inputs(), pick(m.dice, m.roll(30), 300)
		for c := range all.All(features) {
			list, _ := source.Plain(files(text), featureNames, c)
			tree := syntax.Plain(list, c)
			facts, _ := check.Plain(tree, c)
			if source.Text(source.Project(b.List, c)) != source.Text(list) {
				t.Fatalf("%s\n%b: other words", text, c)
			}
			if like, e := syntax.Like(b.Tree, tree, diagram.Cube(c, ^c)); e != api.OK || like.Empty() {
				t.Fatalf("%s\n%b: another tree", text, c)
			}
			if !slices.EqualFunc(check.Project(b.Facts, c), facts, alike) {
				t.Fatalf("%s\n%b: other facts", text, c)
			}
			o, p := plain(t, b.Tree, c, in, fuel), plain(t, tree, c, in, fuel)
			if o.Tok = p.Tok; !equal(o, p) {
				t.Fatalf("%s\n%b: %s, by itself %s", text, c, shown(o), shown(p))
			}
			if good := len(list.Diags) == 0 && p.Status != api.Rejected; good != b.Good.Has(c) {
				t.Fatalf("%s\n%b: good: %v", text, c, good)
			}
		}
	})
}

// alike reports whether two facts have the same kind, and the same type or code.
func alike(a, b check.Fact) bool {
	if a.Kind == api.FactType || a.Kind == api.FactError {
		return a.Kind == b.Kind && a.Other == b.Other
	}
	return a.Kind == b.Kind
}

// The example of the document.
func TestExample(t *testing.T) {
	b := built(t, "fn main() {\n#ifdef B\nprint 1;\n#else\nprint 2 / read;\n#endif\n}")
	products := diagram.Cube(1, 6).Or(diagram.Cube(5, 2)).Or(diagram.Cube(7, 0))
	l := family(t, b.Tree, products, nil, 100)
	if got := shownParts(l); got != "zero at 10, 1 in 1 5\ndone, 1: 1 in 7" {
		t.Error("the family run:", got)
	}
	bad := run.Where(l, api.Zero)
	q, e := run.Causes(bad, products)
	n, f := run.Strength(bad, products)
	// In the products there is no B where there is no C.
	if e != api.OK || f != api.OK || !slices.Equal(q, []api.Cube{{Off: 2}, {Off: 4}}) || n != 1 {
		t.Error("causes:", q, e, n, f)
	}
	if c, e := run.Shrink(5, bad, products); c != 1 || e != api.OK {
		t.Error("Shrink:", c, e)
	}
	if got := shown(plain(t, b.Tree, 5, []int64{-2}, 100)); got != "done, 1: -1" {
		t.Error("with an input:", got)
	}
	tests := []run.Test{{Name: "no input", Want: []int64{1}}}
	d, e := run.Fails(b.Tree, all, tests, 100)
	if e != api.OK || len(d) != 1 || !d[0].Same(inB.Not()) {
		t.Error("Fails:", e)
	}
	s, e := run.Sampled(b.Tree, []uint32{0, 3}, tests, 100)
	if e != api.OK || len(s) != 1 || !slices.Equal(s[0], []bool{true, false}) {
		t.Error("Sampled:", s, e)
	}
	p, e := run.Coverage(b.Tree, b.Good, nil, 100)
	if e != api.OK || len(p) != 2 || p[0].Tok != 5 || !p[0].Cond.Same(inB) || p[1].Tok != 8 || !p[1].Cond.Same(inB.Not()) {
		t.Error("Coverage:", p, e)
	}
}
