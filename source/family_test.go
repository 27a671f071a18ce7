package source_test

import (
	"math/bits"
	"slices"
	"strings"
	"testing"

	"motley/api"
	"motley/diagram"
	"motley/source"
)

// each calls check for some projects.
func each(t *testing.T, count int, heavy bool, check func(p project, d *dice)) {
	t.Helper()
	d := dice(88172645463325252)
	for range count {
		p := someProject(&d, heavy)
		if k, line, e := source.Check(p.files, p.names); e != api.OK {
			t.Fatalf("Check of %q: %d, %d, %v", p, k, line, e)
		}
		check(p, &d)
	}
}

// holdAgainst compares both tools with the reference, in all configurations. It returns which codes there were.
func holdAgainst(t *testing.T, p project) map[api.Code]bool {
	t.Helper()
	seen := map[api.Code]bool{}
	l := family(t, p.files, p.names, diagram.True())
	if !source.Valid(l) {
		t.Fatalf("the family list is not canonical: %q", p)
	}
	for c := range uint32(1) << len(p.names) {
		r := refer(p.files, p.names, c)
		one := plain(t, p.files, p.names, c)
		if !r.same(one) {
			t.Fatalf("Plain of %q, %b:\n%s; %s\nwant %v; %v", p, c, texts(one), codes(one), r.words, r.faults)
		}
		if !source.Same(source.Project(l, c), one) {
			t.Fatalf("the projection of the family list of %q to %b", p, c)
		}
		for _, g := range one.Diags {
			seen[g.Code] = true
		}
	}
	return seen
}

// P6.2, P6.8

func TestProjection(t *testing.T) {
	for _, heavy := range []bool{false, true} {
		seen := map[api.Code]bool{}
		each(t, 700, heavy, func(p project, _ *dice) {
			for code := range holdAgainst(t, p) {
				seen[code] = true
			}
		})
		if !seen[api.CodeCall] || !seen[api.CodeError] || !seen[api.CodeExpr] {
			t.Error("no source had one of the codes:", seen)
		}
	}
}

func TestProjectionOfLongLines(t *testing.T) {
	d := dice(1234567)
	seen := map[api.Code]bool{}
	partly := 0
	for range 12 {
		p := longProject(&d)
		for code := range holdAgainst(t, p) {
			seen[code] = true
		}
		for _, g := range family(t, p.files, p.names, diagram.True()).Diags {
			if g.Code == api.CodeLong && !g.Cond.Full() {
				partly++
			}
		}
	}
	if !seen[api.CodeLong] || !seen[api.CodeDeep] || partly == 0 {
		t.Error("no source had one of the codes:", seen, partly)
	}
}

func TestPlainIgnoresOtherFeatures(t *testing.T) {
	files, names := file("A B C", "#ifdef A", "x", "#endif"), []string{"A", "B"}
	for c := range uint32(4) {
		want := plain(t, files, names, c)
		for _, more := range []uint32{4, 1 << 23, 1 << 24, 1 << 31, 0xfffffffc} {
			if !source.Same(plain(t, files, names, c|more), want) {
				t.Errorf("Plain of %x is not that of %x", c|more, c)
			}
		}
	}
}

func TestFamilyOfTheChapter(t *testing.T) {
	l := family(t, file("#ifdef A", "x = 1;", "#elif B", "x = 2;", "#endif", "y;"), []string{"A", "B"}, diagram.True())
	conds := map[int]diagram.D{2: diagram.Cube(1, 0), 4: diagram.Cube(2, 1), 6: diagram.True()}
	want := []string{"2 0", "2 1", "2 2", "2 3", "4 0", "4 1", "4 2", "4 3", "6 0", "6 1"}
	if texts(l) != "x = 1 ; x = 2 ; y ;" || len(l.Tokens) != len(want) || len(l.Diags) != 0 {
		t.Fatalf("%s; %s", texts(l), codes(l))
	}
	for k, x := range l.Tokens {
		if numbers(x.Path...) != want[k] || !x.Cond.Same(conds[x.Path[0]]) || x.File != 0 || x.Line != x.Path[0] {
			t.Errorf("token %d: %v", k, x)
		}
	}
}

// What many features decide is found for all of them at once, not for one configuration after the other.
func TestManyFeatures(t *testing.T) {
	names := strings.Split("ABCDEFGHIJKLMNOPQRSTUVWX", "")
	all := strings.Join(names, " ")
	files := file(
		"#define TWO(x) x x",
		all,
		"#if defined("+strings.Join(names, ") && defined(")+")",
		"all",
		"#elif "+strings.Join(names, " || "),
		"some",
		"#if "+strings.Join(names, " + ")+" == 12",
		"half",
		"#endif",
		"#endif",
		"TWO(TWO(TWO(TWO("+all+"))))",
	)
	l := family(t, files, names, diagram.True())
	conds := map[string]diagram.D{}
	for _, x := range l.Tokens {
		conds[x.Text] = x.Cond
	}
	every := uint32(1<<24 - 1)
	if !source.Valid(l) || len(l.Tokens) != 2*24+3+2*24*16 || len(l.Diags) != 0 ||
		!conds["all"].Same(diagram.Cube(every, 0)) ||
		!conds["some"].Same(diagram.Cube(every, 0).Or(diagram.Cube(0, every)).Not()) ||
		!conds["half"].Same(diagram.Between(every, 12, 12)) {
		t.Errorf("%d tokens; %s", len(l.Tokens), codes(l))
	}
	d := dice(77)
	for range 20 {
		c := uint32(d.roll(1 << 24))
		if !source.Same(source.Project(l, c), plain(t, files, names, c)) {
			t.Errorf("the projection to %x", c)
		}
	}
}

// A line may be too long in some of very many configurations, all of which take different steps.
func TestManySteps(t *testing.T) {
	names := strings.Split("ABCDEFGH", "")
	lines := []string{"#define MANY(x) x x x x x x x x"}
	for i, name := range names {
		lines = append(lines, "#ifdef "+name, "#define X"+name+" "+strings.Repeat("x ", min(1<<i, 200)), "#endif")
	}
	lines = append(lines, "MANY(MANY(MANY(a b c d e f))) MANY(MANY(a b c d)) XA XB XC XD XE XF XG XH")
	files := file(lines...)
	l := family(t, files, names, diagram.True())
	long := diagram.False()
	for c := range uint32(1) << len(names) {
		r := refer(files, names, c)
		if !r.same(source.Project(l, c)) {
			t.Fatalf("the projection to %x", c)
		}
		if len(r.faults) > 0 {
			long = long.Or(diagram.Cube(c, 1<<len(names)-1-c))
		}
	}
	if n, _ := long.Count(len(names)); n == 0 || n == 1<<len(names) || len(l.Diags) != 1 || !l.Diags[0].Cond.Same(long) {
		t.Errorf("%d configurations are too long; %s", n, codes(l))
	}
}

// Alternatives of a macro, all of which may make the line too long, or be just short enough, one after the other.
func TestLongAlternatives(t *testing.T) {
	names := []string{"A", "B", "C"}
	for fill := 70; fill < 110; fill += 3 {
		files := file(
			"#define MANY(x) x x x x x x x x",
			"#if A", "#define M "+strings.Repeat("a ", 240), "#elif B", "#define M "+strings.Repeat("b ", 200),
			"#elif C", "#define M "+strings.Repeat("c ", 150), "#else", "#define M", "#endif",
			"MANY(MANY(MANY(1 2 3 4 5 6))) MANY(MANY(1 2 3)) M "+strings.Repeat("x ", fill)+" M",
		)
		l := family(t, files, names, diagram.True())
		for c := range uint32(8) {
			if !refer(files, names, c).same(source.Project(l, c)) {
				t.Errorf("the projection to %b, with %d more tokens", c, fill)
			}
		}
	}
}

// P6.9

func TestWithin(t *testing.T) {
	check := func(p project, d *dice) {
		n := len(p.names)
		a, b := someSet(d, n), someSet(d, n+2)
		l := family(t, p.files, p.names, diagram.True())
		inA, inB := family(t, p.files, p.names, a), family(t, p.files, p.names, b)
		both := family(t, p.files, p.names, a.Or(b))
		if !source.Same(inA, source.Restrict(l, a)) || !source.Same(inB, source.Restrict(l, b)) {
			t.Fatalf("the list of %q within a condition", p)
		}
		if !source.Same(source.Merge([]source.List{inA, inB}), both) {
			t.Fatalf("the lists of %q within two conditions", p)
		}
	}
	each(t, 300, false, check)
	d := dice(4711)
	for range 5 {
		check(longProject(&d), &d)
	}
}

func TestWithinNothing(t *testing.T) {
	l := family(t, file("A", "#if +", "#endif", "#error"), []string{"A"}, diagram.False())
	if len(l.Tokens) != 0 || len(l.Diags) != 0 {
		t.Errorf("%s; %s", texts(l), codes(l))
	}
}

// P6.10

func TestOnlyWhatIsMentioned(t *testing.T) {
	each(t, 300, false, func(p project, d *dice) {
		m, e := source.Mentions(p.files, p.names)
		if e != api.OK {
			t.Fatalf("Mentions of %q: %v", p, e)
		}
		l := family(t, p.files, p.names, diagram.True())
		for _, x := range l.Tokens {
			if x.Cond.Support()&^m != 0 {
				t.Fatalf("a condition in the list of %q depends on more than %b", p, m)
			}
		}
		for _, g := range l.Diags {
			if g.Cond.Support()&^m != 0 {
				t.Fatalf("a condition in the list of %q depends on more than %b", p, m)
			}
		}
		for c := range uint32(1) << len(p.names) {
			if !source.Same(plain(t, p.files, p.names, c), plain(t, p.files, p.names, c&m)) {
				t.Fatalf("the list of %q in %b, and in %b", p, c, c&m)
			}
		}
	})
}

// P6.11

func TestProductIsSource(t *testing.T) {
	each(t, 300, true, func(p project, _ *dice) {
		for c := range uint32(1) << len(p.names) {
			l := plain(t, p.files, p.names, c)
			files := file(source.Text(l))
			if _, _, e := source.Check(files, nil); e != api.OK {
				if e != api.ErrLimit {
					t.Fatalf("the text of %q in %b: %v", p, c, e)
				}
				continue
			}
			again := plain(t, files, nil, 0)
			if len(again.Diags) != 0 || !source.Differ(l, again, diagram.True()).Empty() {
				t.Fatalf("the text of %q in %b", p, c)
			}
		}
	})
}

// P6.12

func TestDeadLines(t *testing.T) {
	each(t, 300, false, func(p project, d *dice) {
		within := someSet(d, len(p.names))
		active, e := source.Active(p.files, p.names, within)
		if e != api.OK {
			t.Fatalf("Active of %q: %v", p, e)
		}
		for _, x := range family(t, p.files, p.names, within).Tokens {
			if !x.Cond.Within(active[x.File][x.Line-1]) {
				t.Fatalf("a token of %q is in a line that is not active", p)
			}
		}
	})
}

// P6.14

func TestOneOrder(t *testing.T) {
	each(t, 300, true, func(p project, _ *dice) {
		for c := range uint32(1) << len(p.names) {
			l := plain(t, p.files, p.names, c).Tokens
			for k := range max(len(l), 1) - 1 {
				a, b := l[k].Path, l[k+1].Path
				if slices.Compare(a, b) >= 0 || slices.Equal(a, b[:min(len(a), len(b))]) {
					t.Fatalf("the tokens of %q in %b have the paths %v and %v", p, c, a, b)
				}
			}
		}
	})
}

// P6.15

func TestFeatureIsMacro(t *testing.T) {
	each(t, 200, false, func(p project, d *dice) {
		if len(p.names) == 0 {
			return
		}
		i := d.roll(len(p.names))
		fewer := slices.Delete(slices.Clone(p.names), i, i+1)
		defining := slices.Clone(p.files)
		defining[0].Text = "#define " + p.names[i] + " 1\n" + defining[0].Text
		for c := range uint32(1) << len(p.names) {
			files := p.files
			if c>>i&1 == 1 {
				files = defining
			}
			low := c & (1<<i - 1)
			got := plain(t, files, fewer, c>>(i+1)<<i|low)
			if want := plain(t, p.files, p.names, c); texts(got) != texts(want) {
				t.Fatalf("%q without the name %s, in %b: %s, want %s", p, p.names[i], c, texts(got), texts(want))
			}
		}
	})
}

// R4

func TestResultsShareNothing(t *testing.T) {
	each(t, 50, true, func(p project, _ *dice) {
		l := family(t, p.files, p.names, diagram.True())
		kept := family(t, p.files, p.names, diagram.True())
		for _, f := range []func(source.List) source.List{
			func(l source.List) source.List { return source.Project(l, uint32(bits.Reverse32(5))) },
			func(l source.List) source.List { return source.Restrict(l, diagram.True()) },
			func(l source.List) source.List { return source.Merge([]source.List{l, l}) },
		} {
			spoil(f(l))
			if !source.Same(l, kept) {
				t.Fatalf("the list of %q is changed", p)
			}
		}
		for k := range l.Tokens {
			before := slices.Clone(l.Tokens)
			_ = append(l.Tokens[k].Path, 99)
			if !source.Same(source.List{Tokens: before}, source.List{Tokens: kept.Tokens}) {
				t.Fatalf("two paths of %q share memory", p)
			}
			if k > 20 {
				break
			}
		}
	})
}

// spoil overwrites all memory of a list.
func spoil(l source.List) {
	for k := range l.Tokens {
		for i := range l.Tokens[k].Path {
			l.Tokens[k].Path[i] = -1
		}
		l.Tokens[k] = source.Token{}
	}
	for k := range l.Diags {
		for i := range l.Diags[k].Path {
			l.Diags[k].Path[i] = -1
		}
		l.Diags[k] = source.Diag{}
	}
}
