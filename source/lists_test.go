package source_test

import (
	"slices"
	"strings"
	"testing"

	"motley/api"
	"motley/diagram"
	"motley/source"
)

// anyList is a list that need not be canonical: things may be equal, stand in any order, and have no condition.
func anyList(d *dice) source.List {
	var l source.List
	cond := func() diagram.D {
		if d.roll(4) == 0 {
			return diagram.False()
		}
		return someSet(d, 3)
	}
	path := func() []int {
		var p []int
		for range d.roll(3) {
			p = append(p, d.roll(3)-1)
		}
		return p
	}
	for range d.roll(8) {
		l.Tokens = append(l.Tokens, source.Token{
			Kind: uint8(d.roll(3)), Text: pick(d, "a", "b", ""), Path: path(), File: d.roll(2), Line: d.roll(2), Cond: cond(),
		})
	}
	for range d.roll(5) {
		l.Diags = append(l.Diags, source.Diag{
			Code: api.Code(d.roll(3)), Path: path(), File: d.roll(2), Line: d.roll(2), Cond: cond(),
		})
	}
	return l
}

func equalTokens(a, b source.Token) bool {
	return a.Kind == b.Kind && a.Text == b.Text && slices.Equal(a.Path, b.Path) && a.File == b.File && a.Line == b.Line && a.Cond == b.Cond
}

func equalDiags(a, b source.Diag) bool {
	return a.Code == b.Code && slices.Equal(a.Path, b.Path) && a.File == b.File && a.Line == b.Line && a.Cond == b.Cond
}

func equal(a, b source.List) bool {
	return slices.EqualFunc(a.Tokens, b.Tokens, equalTokens) && slices.EqualFunc(a.Diags, b.Diags, equalDiags)
}

// P6.3

func TestProjectAndRestrict(t *testing.T) {
	d := dice(99)
	for range 300 {
		l := anyList(&d)
		for c := range uint32(8) {
			var want source.List
			for _, x := range l.Tokens {
				if x.Cond.Has(c) {
					x.Cond = diagram.True()
					want.Tokens = append(want.Tokens, x)
				}
			}
			for _, x := range l.Diags {
				if x.Cond.Has(c) {
					x.Cond = diagram.True()
					want.Diags = append(want.Diags, x)
				}
			}
			if !equal(source.Project(l, c), want) || !equal(source.Project(l, c|0xff000000), want) {
				t.Fatalf("Project(%v, %d)", l, c)
			}
		}
		within := someSet(&d, 4)
		var want source.List
		for _, x := range l.Tokens {
			if x.Cond = x.Cond.And(within); !x.Cond.Empty() {
				want.Tokens = append(want.Tokens, x)
			}
		}
		for _, x := range l.Diags {
			if x.Cond = x.Cond.And(within); !x.Cond.Empty() {
				want.Diags = append(want.Diags, x)
			}
		}
		if !equal(source.Restrict(l, within), want) {
			t.Fatalf("Restrict(%v)", l)
		}
	}
}

func TestMerge(t *testing.T) {
	d := dice(31337)
	for range 500 {
		lists := make([]source.List, d.roll(4))
		for k := range lists {
			lists[k] = anyList(&d)
		}
		got := source.Merge(lists)
		if !source.Valid(got) {
			t.Fatalf("Merge(%v) is not canonical", lists)
		}
		tokens, diags := 0, 0
		for _, x := range got.Tokens {
			first, union := source.Token{}, diagram.False()
			for _, l := range lists {
				for _, y := range l.Tokens {
					if y.Cond.Empty() || y.Kind != x.Kind || y.Text != x.Text || !slices.Equal(y.Path, x.Path) {
						continue
					}
					tokens++
					if union.Empty() {
						first = y
					}
					union = union.Or(y.Cond)
				}
			}
			if first.Cond = union; !equalTokens(first, x) {
				t.Fatalf("Merge(%v): %v, want %v", lists, x, first)
			}
		}
		for _, x := range got.Diags {
			first, union := source.Diag{}, diagram.False()
			for _, l := range lists {
				for _, y := range l.Diags {
					if y.Cond.Empty() || y.Code != x.Code || !slices.Equal(y.Path, x.Path) {
						continue
					}
					diags++
					if union.Empty() {
						first = y
					}
					union = union.Or(y.Cond)
				}
			}
			if first.Cond = union; !equalDiags(first, x) {
				t.Fatalf("Merge(%v): %v, want %v", lists, x, first)
			}
		}
		for _, l := range lists {
			for _, y := range l.Tokens {
				if !y.Cond.Empty() {
					tokens--
				}
			}
			for _, y := range l.Diags {
				if !y.Cond.Empty() {
					diags--
				}
			}
		}
		if tokens != 0 || diags != 0 {
			t.Fatalf("Merge(%v) leaves something out", lists)
		}
	}
	if l := source.Merge(nil); len(l.Tokens) != 0 || len(l.Diags) != 0 {
		t.Errorf("Merge of nothing: %v", l)
	}
}

// one is a list of one token and one diagnostic.
func one() source.List {
	return source.List{
		Tokens: []source.Token{{Kind: 1, Text: "a", Path: []int{1, 0}, File: 2, Line: 3, Cond: diagram.Cube(1, 2)}},
		Diags:  []source.Diag{{Code: 4, Path: []int{5}, File: 6, Line: 7, Cond: diagram.Cube(2, 0)}},
	}
}

func TestSame(t *testing.T) {
	if !source.Same(one(), one()) || !source.Same(source.List{}, source.List{Tokens: []source.Token{}, Diags: []source.Diag{}}) {
		t.Error("equal lists are not the same")
	}
	for k, change := range []func(l *source.List){
		func(l *source.List) { l.Tokens[0].Kind = 2 },
		func(l *source.List) { l.Tokens[0].Text = "b" },
		func(l *source.List) { l.Tokens[0].Path = []int{1, 1} },
		func(l *source.List) { l.Tokens[0].Path = []int{1} },
		func(l *source.List) { l.Tokens[0].File = 0 },
		func(l *source.List) { l.Tokens[0].Line = 0 },
		func(l *source.List) { l.Tokens[0].Cond = diagram.Cube(1, 0) },
		func(l *source.List) { l.Tokens = nil },
		func(l *source.List) { l.Tokens = append(l.Tokens, l.Tokens[0]) },
		func(l *source.List) { l.Diags[0].Code = 5 },
		func(l *source.List) { l.Diags[0].Path[0] = 4 },
		func(l *source.List) { l.Diags[0].File = 0 },
		func(l *source.List) { l.Diags[0].Line = 0 },
		func(l *source.List) { l.Diags[0].Cond = diagram.False() },
		func(l *source.List) { l.Diags = nil },
	} {
		l := one()
		change(&l)
		if source.Same(l, one()) || source.Same(one(), l) || !source.Same(l, l) {
			t.Errorf("change %d", k)
		}
	}
	a, b := one(), one()
	a.Tokens = append(a.Tokens, source.Token{Text: "z", Cond: diagram.True()})
	b.Tokens = slices.Insert(b.Tokens, 0, a.Tokens[1])
	if source.Same(a, b) {
		t.Error("another order is the same")
	}
	a, b = one(), one()
	a.Tokens[0].Path, b.Tokens[0].Path = nil, []int{}
	if !source.Same(a, b) {
		t.Error("nil and empty paths are not the same")
	}
}

func TestValid(t *testing.T) {
	token := func(kind uint8, text string, path ...int) source.Token {
		return source.Token{Kind: kind, Text: text, Path: path, Cond: diagram.True()}
	}
	diag := func(code api.Code, path ...int) source.Diag {
		return source.Diag{Code: code, Path: path, Cond: diagram.True()}
	}
	for k, l := range [][]source.Token{
		{},
		{token(1, "a")},
		{token(1, "a"), token(1, "b"), token(2, "a"), token(1, "a", -5), token(1, "a", 0), token(1, "a", 0, 0), token(1, "a", 1)},
		{token(1, "B", 2), token(1, "_", 2), token(1, "a", 2), token(1, "aa", 2), token(1, "\xff", 2)},
		{token(200, "a b\n", 2), token(0, "", 10)},
	} {
		if !source.Valid(source.List{Tokens: l}) {
			t.Errorf("tokens %d", k)
		}
		for i := range max(len(l), 1) - 1 {
			bad := slices.Clone(l)
			bad[i], bad[i+1] = bad[i+1], bad[i]
			twice := slices.Insert(slices.Clone(l), i, l[i])
			empty := slices.Clone(l)
			empty[i].Cond = diagram.False()
			for _, x := range [][]source.Token{bad, twice, empty} {
				if source.Valid(source.List{Tokens: x}) {
					t.Errorf("tokens %d, changed at %d", k, i)
				}
			}
		}
	}
	l := []source.Diag{diag(1), diag(2), diag(1, 0), diag(3, 0), diag(1, 0, 0), diag(1, 1), diag(200, 1)}
	if !source.Valid(source.List{Diags: l}) {
		t.Error("diagnostics")
	}
	for i := range l[1:] {
		bad := slices.Clone(l)
		bad[i], bad[i+1] = bad[i+1], bad[i]
		twice := slices.Insert(slices.Clone(l), i, l[i])
		empty := slices.Clone(l)
		empty[i].Cond = diagram.False()
		for _, x := range [][]source.Diag{bad, twice, empty} {
			if source.Valid(source.List{Diags: x}) {
				t.Errorf("diagnostics, changed at %d", i)
			}
		}
	}
	// Things that differ in other fields only are equal.
	other := token(1, "a", 1)
	other.File, other.Line, other.Cond = 1, 1, diagram.Cube(1, 0)
	if source.Valid(source.List{Tokens: []source.Token{token(1, "a", 1), other}}) {
		t.Error("two tokens that differ in their lines")
	}
}

// P6.4

// row is a list of tokens with these texts, each of the file and line that its digits say.
func row(words ...string) source.List {
	var l source.List
	for k := 0; k < len(words); k += 2 {
		l.Tokens = append(l.Tokens, source.Token{
			Text: words[k], File: int(words[k+1][0] - '0'), Line: int(words[k+1][1] - '0'), Cond: diagram.Cube(uint32(k), 0),
		})
	}
	return l
}

func TestText(t *testing.T) {
	for want, l := range map[string]source.List{
		"":                                   {},
		"a\n":                                row("a", "01"),
		"a b\nc\nd e\n":                      row("a", "01", "b", "01", "c", "02", "d", "12", "e", "12"),
		"a\nb\na\n":                          row("a", "01", "b", "02", "a", "01"),
		" \n":                                row("", "01", "", "01"),
		"x y z\n":                            row("x y", "01", "z", "01"),
		"a\nb\n":                             row("a", "01", "b", "11"),
		strings.Repeat("a ", 255) + "a\n":    row(slices.Repeat([]string{"a", "01"}, 256)...),
		strings.Repeat("b ", 255) + "b\nb\n": row(slices.Repeat([]string{"b", "01"}, 257)...),
		strings.Repeat(strings.Repeat("c ", 255)+"c\n", 2): row(slices.Repeat([]string{"c", "01"}, 512)...),
		"d\n" + strings.Repeat("d ", 255) + "d\n":          row(append([]string{"d", "02"}, slices.Repeat([]string{"d", "01"}, 256)...)...),
	} {
		if got := source.Text(l); got != want {
			t.Errorf("Text of %d tokens: %.60q, want %.60q", len(l.Tokens), got, want)
		}
	}
	l := plain(t, file("#define M x", "a M // c", "", " M;"), nil, 0)
	if got := source.Text(l); got != "a x\nx ;\n" {
		t.Errorf("Text: %q", got)
	}
}

func TestConditions(t *testing.T) {
	a, b, none := diagram.Cube(1, 0), diagram.Cube(2, 0), diagram.False()
	for _, x := range []struct{ conds, want []diagram.D }{
		{nil, nil},
		{[]diagram.D{b, a, b, b, a}, []diagram.D{b, a}},
		{[]diagram.D{a, a.Not().Not(), b.Or(a), a.Or(b), none, none}, []diagram.D{a, a.Or(b), none}},
	} {
		var l source.List
		for _, d := range x.conds {
			l.Tokens = append(l.Tokens, source.Token{Cond: d})
		}
		l.Diags = []source.Diag{{Cond: diagram.Cube(4, 0)}}
		if got := source.Conditions(l); !slices.Equal(got, x.want) {
			t.Errorf("Conditions: %d, want %d", len(got), len(x.want))
		}
	}
}

func TestFind(t *testing.T) {
	l := row("a", "01", "b", "02", "c", "01", "d", "11", "e", "01")
	for at, want := range map[[2]int][]int{
		{0, 1}: {0, 2, 4}, {0, 2}: {1}, {1, 1}: {3}, {1, 2}: nil, {0, 0}: nil, {-1, -1}: nil, {1 << 60, 1}: nil,
	} {
		if got := source.Find(l, at[0], at[1]); !slices.Equal(got, want) {
			t.Errorf("Find(%d, %d): %v, want %v", at[0], at[1], got, want)
		}
	}
	if got := source.Find(source.List{}, 0, 0); len(got) != 0 {
		t.Errorf("Find in nothing: %v", got)
	}
}
