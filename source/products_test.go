package source_test

import (
	"slices"
	"strings"
	"testing"

	"motley/api"
	"motley/diagram"
	"motley/source"
)

// P6.7

// tokens are the kinds and texts that a configuration has of a list.
func tokens(l source.List, c uint32) []string {
	var out []string
	for _, x := range l.Tokens {
		if x.Cond.Has(c) {
			out = append(out, numbers(int(x.Kind))+x.Text)
		}
	}
	return out
}

func TestDiffer(t *testing.T) {
	d := dice(2718)
	check := func(a, b source.List, n int) {
		within := someSet(&d, n)
		want := set(n, func(c uint32) bool { return within.Has(c) && !slices.Equal(tokens(a, c), tokens(b, c)) })
		if got := source.Differ(a, b, within); !got.Same(want) {
			t.Fatalf("Differ(%v, %v)", a, b)
		}
	}
	for range 1500 {
		a, b := anyList(&d), anyList(&d)
		if d.roll(2) == 0 {
			b = source.Restrict(a, someSet(&d, 3))
			b.Tokens = append(b.Tokens, source.Restrict(a, someSet(&d, 3)).Tokens...)
		}
		check(a, b, 3)
	}
	var last source.List
	each(t, 300, false, func(p project, _ *dice) {
		l := family(t, p.files, p.names, diagram.True())
		check(l, l, 5)
		check(l, last, 5)
		p.files[0].Text = strings.ReplaceAll(p.files[0].Text, "z", "z z")
		check(l, family(t, p.files, p.names, diagram.True()), 5)
		last = l
	})
}

func TestDifferByHand(t *testing.T) {
	a, b, all := diagram.Cube(1, 0), diagram.Cube(2, 0), diagram.True()
	token := func(kind uint8, text string, d diagram.D) source.Token {
		return source.Token{Kind: kind, Text: text, Cond: d}
	}
	list := func(l ...source.Token) source.List { return source.List{Tokens: l} }
	for k, x := range []struct {
		a, b source.List
		want diagram.D
	}{
		{list(), list(), diagram.False()},
		{list(token(1, "a", a)), list(), a},
		{list(), list(token(1, "a", a)), a},
		{list(token(1, "a", a)), list(token(1, "a", b)), a.Xor(b)},
		{list(token(1, "a", all)), list(token(2, "a", all)), all},
		{list(token(1, "a", all)), list(token(1, "b", all)), all},
		{list(token(1, "a", a), token(1, "a", a.Not())), list(token(1, "a", all)), diagram.False()},
		{list(token(1, "a", a), token(1, "b", a)), list(token(1, "b", a), token(1, "a", a)), a},
		{list(token(1, "a b", all)), list(token(1, "a", all), token(1, "b", all)), all},
		{list(token(0, "", diagram.False())), list(), diagram.False()},
		{list(token(0, "", all)), list(), all},
		{list(), list(token(0, "", all)), all},
	} {
		if got := source.Differ(x.a, x.b, all); !got.Same(x.want) {
			t.Errorf("case %d", k)
		}
		if got := source.Differ(x.b, x.a, b); !got.Same(x.want.And(b)) {
			t.Errorf("case %d, the other way round", k)
		}
	}
	l := list(token(1, "a", all))
	m := source.List{Tokens: []source.Token{{Kind: 1, Text: "a", Path: []int{9}, File: 3, Line: 4, Cond: all}}, Diags: one().Diags}
	if !source.Differ(l, m, all).Empty() {
		t.Error("lists that differ in paths, lines and diagnostics")
	}
}

// wordsOfList are the words that a configuration has of a list.
func wordsOfList(l source.List, c uint32) string { return texts(source.Project(l, c)) }

// P6.7, P6.13

func TestProducts(t *testing.T) {
	d := dice(1618)
	check := func(l source.List, n int) {
		within := someSet(&d, n)
		var want []source.Product
		for c := range within.All(n) {
			words := wordsOfList(l, c)
			k := slices.IndexFunc(want, func(p source.Product) bool { return p.Words == words })
			if k < 0 {
				k = len(want)
				want = append(want, source.Product{Words: words})
			}
			want[k].Cond = want[k].Cond.Or(diagram.Cube(c, 1<<n-1-c))
		}
		for _, most := range []int{len(want), len(want) + 1, 1 << 40} {
			if got, e := source.Products(l, within, most); e != api.OK || !slices.Equal(got, want) {
				t.Fatalf("Products(%v): %v, %v, want %v", l, got, e, want)
			}
		}
		if got, e := source.Products(l, within, len(want)-1); len(want) > 0 && (e != api.ErrLimit || len(got) != 0) {
			t.Fatalf("Products(%v), with too many: %v, %v", l, got, e)
		}
	}
	for range 500 {
		l := anyList(&d)
		for k := range l.Tokens {
			l.Tokens[k].Text = pick(&d, "a", "b", "a b", "", " ", " a")
		}
		check(l, 3)
	}
	each(t, 300, false, func(p project, _ *dice) {
		check(family(t, p.files, p.names, diagram.True()), 5)
	})
}

func TestProductsErrors(t *testing.T) {
	all := diagram.True()
	for _, most := range []int{-1, -1 << 63} {
		if l, e := source.Products(source.List{}, diagram.False(), most); e != api.ErrRange || len(l) != 0 {
			t.Errorf("%d products at most: %v, %v", most, l, e)
		}
	}
	if l, e := source.Products(source.List{}, all, 0); e != api.ErrLimit || len(l) != 0 {
		t.Errorf("no products at most: %v, %v", l, e)
	}
	if l, e := source.Products(source.List{}, diagram.False(), 0); e != api.OK || len(l) != 0 {
		t.Errorf("no products: %v, %v", l, e)
	}
	if l, e := source.Products(source.List{}, all, 1); e != api.OK || len(l) != 1 || l[0] != (source.Product{Cond: all}) {
		t.Errorf("one product: %v, %v", l, e)
	}
}

// So many products that they cannot be made one by one.
func TestProductsOfManyFeatures(t *testing.T) {
	names := manyNames(24)
	var lines []string
	for _, name := range names {
		lines = append(lines, "#ifdef "+name, "x", "#else", "y", "#endif")
	}
	l := family(t, file(lines...), names, diagram.True())
	if got, e := source.Products(l, diagram.True(), 1000); e != api.ErrLimit || len(got) != 0 {
		t.Errorf("Products: %d, %v", len(got), e)
	}
	// All configurations have as many words in the end, but not on the way.
	for k := range l.Tokens {
		l.Tokens[k].Text = "x"
	}
	slices.SortStableFunc(l.Tokens, func(a, b source.Token) int { return (a.Path[0]-1)%5 - (b.Path[0]-1)%5 })
	got, e := source.Products(l, diagram.True(), 1)
	if e != api.OK || len(got) != 1 || got[0].Words != strings.TrimSpace(strings.Repeat("x ", 24)) || !got[0].Cond.Full() {
		t.Errorf("Products: %d, %v", len(got), e)
	}
	if d := source.Differ(l, source.Project(l, 0), diagram.True()); !d.Empty() {
		t.Error("Differ")
	}
}

// P6.13

func TestProductsOfEqualLists(t *testing.T) {
	each(t, 200, false, func(p project, d *dice) {
		l := family(t, p.files, p.names, diagram.True())
		p.files[0].Text = strings.Replace(p.files[0].Text, "z", "z z", 1)
		m := family(t, p.files, p.names, diagram.True())
		within := source.Differ(l, m, diagram.True()).Not()
		a, e := source.Products(l, within, 1000)
		b, f := source.Products(m, within, 1000)
		if e != api.OK || f != api.OK || !slices.Equal(a, b) {
			t.Fatalf("the products of %q, where it is the same: %v, %v", p, a, b)
		}
		union := diagram.False()
		for _, x := range a {
			if x.Cond.Empty() || x.Cond.Meets(union) {
				t.Fatalf("the products of %q: %v", p, a)
			}
			union = union.Or(x.Cond)
		}
		if !union.Same(within) {
			t.Fatalf("the products of %q do not have all configurations", p)
		}
	})
}
