package check_test

import (
	"slices"
	"testing"

	"motley/api"
	"motley/check"
	"motley/diagram"
	"motley/syntax"
)

func fact(kind uint8, tok, other int, d diagram.D) check.Fact {
	return check.Fact{Kind: kind, Tok: tok, Other: other, Cond: d}
}

var (
	inA  = diagram.Cube(1, 0)
	inB  = diagram.Cube(2, 0)
	notA = diagram.Cube(0, 1)
	all  = diagram.True()
	none = diagram.False()
)

// mixed is a list that is not canonical: it is in no order, has a fact twice, and one without a configuration.
func mixed() []check.Fact {
	return []check.Fact{
		fact(api.FactError, 3, 23, inA), fact(api.FactUse, 3, 1, none), fact(api.FactUse, 3, 1, inB),
		fact(9, -4, 1, all), fact(api.FactUse, 3, 1, inA),
	}
}

func same(t *testing.T, what string, got, want []check.Fact) {
	t.Helper()
	if !check.Same(got, want) || len(got) != len(want) {
		t.Errorf("%s:\n%s\nwant\n%s", what, shown(got), shown(want))
	}
}

// P8.2

func TestProject(t *testing.T) {
	l := mixed()
	same(t, "Project to 1", check.Project(l, 1), []check.Fact{
		fact(api.FactError, 3, 23, all), fact(9, -4, 1, all), fact(api.FactUse, 3, 1, all)})
	same(t, "Project to 3, and bits that mean nothing", check.Project(l, 3|1<<24), []check.Fact{
		fact(api.FactError, 3, 23, all), fact(api.FactUse, 3, 1, all), fact(9, -4, 1, all), fact(api.FactUse, 3, 1, all)})
	same(t, "Project to 0", check.Project(l, 0), []check.Fact{fact(9, -4, 1, all)})
	same(t, "Project of nothing", check.Project(nil, 0), nil)
	same(t, "the list", l, mixed())
}

func TestRestrict(t *testing.T) {
	l := mixed()
	same(t, "Restrict to A", check.Restrict(l, inA), []check.Fact{
		fact(api.FactError, 3, 23, inA), fact(api.FactUse, 3, 1, inA.And(inB)), fact(9, -4, 1, inA),
		fact(api.FactUse, 3, 1, inA)})
	same(t, "Restrict to not A", check.Restrict(l, notA), []check.Fact{
		fact(api.FactUse, 3, 1, notA.And(inB)), fact(9, -4, 1, notA)})
	same(t, "Restrict to nothing", check.Restrict(l, none), nil)
	same(t, "the list", l, mixed())
}

func TestMerge(t *testing.T) {
	l := mixed()
	other := []check.Fact{fact(api.FactUse, 3, 0, inA), fact(api.FactType, 3, 1, notA), fact(api.FactUse, 2, 5, inB),
		fact(api.FactError, 3, 23, notA), fact(api.FactUse, 1, 1, none)}
	same(t, "Merge", check.Merge([][]check.Fact{l, nil, other}), []check.Fact{
		fact(9, -4, 1, all), fact(api.FactUse, 2, 5, inB), fact(api.FactUse, 3, 0, inA),
		fact(api.FactUse, 3, 1, inA.Or(inB)), fact(api.FactType, 3, 1, notA), fact(api.FactError, 3, 23, all)})
	same(t, "Merge of nothing", check.Merge(nil), nil)
	same(t, "Merge of a fact without a configuration", check.Merge([][]check.Fact{{fact(1, 1, 1, none)}}), nil)
	same(t, "the list", l, mixed())
}

func TestSame(t *testing.T) {
	one := fact(api.FactUse, 3, 1, inA)
	for k, other := range []check.Fact{
		fact(api.FactFlow, 3, 1, inA), fact(api.FactUse, 4, 1, inA), fact(api.FactUse, 3, 2, inA), fact(api.FactUse, 3, 1, inB),
	} {
		if check.Same([]check.Fact{one}, []check.Fact{other}) {
			t.Error("facts that differ in the field", k)
		}
		if check.Same([]check.Fact{one, other}, []check.Fact{other, one}) {
			t.Error("another order", k)
		}
	}
	if !check.Same([]check.Fact{one}, []check.Fact{fact(api.FactUse, 3, 1, notA.Not())}) {
		t.Error("a set that was made in another way")
	}
	if check.Same([]check.Fact{one}, nil) || check.Same([]check.Fact{one}, []check.Fact{one, one}) {
		t.Error("another length")
	}
	if !check.Same(nil, []check.Fact{}) {
		t.Error("nil, and an empty list")
	}
}

func TestValid(t *testing.T) {
	good := []check.Fact{fact(api.FactError, -1, 29, inA), fact(api.FactUse, 3, 1, inA), fact(api.FactUse, 3, 2, inA),
		fact(api.FactType, 3, 1, inB), fact(api.FactFlow, 3, -7, all), fact(api.FactError, 3, 999, notA),
		fact(api.FactUse, 4, 0, all)}
	if !check.Valid(good) || !check.Valid(nil) {
		t.Error("a list that is valid")
	}
	for k := range good[1:] {
		l := slices.Clone(good)
		l[k], l[k+1] = l[k+1], l[k]
		if check.Valid(l) {
			t.Error("another order at", k)
		}
		l[k] = l[k+1]
		if check.Valid(l) {
			t.Error("a fact twice at", k)
		}
	}
	for _, f := range []check.Fact{fact(0, 1, 1, all), fact(5, 1, 1, all), fact(1, 1, 1, none), fact(255, 1, 1, all)} {
		if check.Valid([]check.Fact{f}) {
			t.Error("a list with", f)
		}
	}
	if check.Valid([]check.Fact{fact(1, 1, 1, inA), fact(1, 1, 1, inB)}) {
		t.Error("facts that are equal but for their conditions")
	}
}

func TestOfAndTo(t *testing.T) {
	l := append(mixed(), fact(api.FactFlow, 3, 1, all), fact(api.FactUse, 5, 1, inA))
	same(t, "Of", check.Of(l, api.FactUse, 3), []check.Fact{
		fact(api.FactUse, 3, 1, none), fact(api.FactUse, 3, 1, inB), fact(api.FactUse, 3, 1, inA)})
	same(t, "Of another kind", check.Of(l, 9, -4), []check.Fact{fact(9, -4, 1, all)})
	same(t, "Of nothing", check.Of(l, api.FactType, 3), nil)
	same(t, "To", check.To(l, api.FactUse, 1), []check.Fact{
		fact(api.FactUse, 3, 1, none), fact(api.FactUse, 3, 1, inB), fact(api.FactUse, 3, 1, inA), fact(api.FactUse, 5, 1, inA)})
	same(t, "To nothing", check.To(l, api.FactUse, 23), nil)
}

// P8.3

func TestProblems(t *testing.T) {
	set := diagram.Cube(6, 0).Or(diagram.Cube(8, 0))
	l := []check.Fact{
		fact(api.FactError, 9, 23, set), fact(api.FactUse, 1, 1, all), fact(api.FactError, 3, 21, none),
		fact(api.FactError, 2, 256+25, inB), fact(api.FactError, 2, -1, inA), fact(9, 2, 21, inA), fact(api.FactError, 9, 23, set),
	}
	want := []check.Problem{
		{Code: 23, Tok: 9, Cond: set, Least: 8}, {Code: 25, Tok: 2, Cond: inB, Least: 2},
		{Code: 255, Tok: 2, Cond: inA, Least: 1}, {Code: 23, Tok: 9, Cond: set, Least: 8},
	}
	if got := check.Problems(l); !slices.Equal(got, want) {
		t.Error("Problems:", got)
	}
	if len(check.Problems(nil)) != 0 {
		t.Error("Problems of nothing")
	}
	x := program(t, "var x :\n#ifdef A\nint\n#else\nbool\n#endif\n; fn main() { x = 1; }")
	got := check.Problems(family(t, x, all))
	if !slices.Equal(got, []check.Problem{{Code: api.CodeType, Tok: 13, Cond: notA, Least: 0}}) {
		t.Error("Problems of a type that differs:", got)
	}
	got = check.Problems(family(t, x, notA.And(inB)))
	if len(got) != 1 || got[0].Least != 2 {
		t.Error("Problems within:", got)
	}
}

// R4: no argument is changed, and no two results share memory.

func TestMemory(t *testing.T) {
	x := program(t, "fn f(a : int, b : bool) { } fn g(a : int, b : bool) { f(1, true); } fn main() { var x : int = 1; print x; }")
	before := syntax.Restrict(x, all)
	i, _ := check.Interface(x, all)
	i[0].Params[0] = 77
	if i[1].Params[0] != api.TypeInt {
		t.Error("two declarations share their Params")
	}
	again, _ := check.Interface(x, all)
	if again[0].Params[0] != api.TypeInt {
		t.Error("two results share their Params")
	}
	l := family(t, x, all)
	restricted, of := check.Restrict(l, all), check.Of(l, l[0].Kind, l[0].Tok)
	restricted[0].Tok, of[0].Tok = 99, 98
	if l[0].Tok == 99 || l[0].Tok == 98 {
		t.Error("a list shares memory with another")
	}
	if !syntax.Same(x, before) {
		t.Error("the tree is another one")
	}
}
