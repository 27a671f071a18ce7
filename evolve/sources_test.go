package evolve_test

import (
	"slices"
	"strings"
	"testing"

	"motley/api"
	"motley/diagram"
	"motley/evolve"
	"motley/run"
	"motley/source"
	"motley/syntax"
)

// features are those of the sources of these tests.
var features = letters[:3]

// program is a program with conditionals, by lines. The lines that may be changed begin with a tab.
type program []string

func (d *dice) statement() string {
	return "\t" + pick(d, "print 1;", "print 1; // one", "print M;", "print 2 / read;", "assert read < 2;", "g = g + 1;",
		"print g;", "while (g > 0) { g = g - 1; }", "{ print 2; }", "f();", "f(); print 3;", "", "h = 1;", "print true;",
		"print 4", "assert g < M;", "if (read == 2) { print 5; }", "return;")
}

func (d *dice) program() program {
	p := program{"#define M 2", "#ifdef " + pick(d, features...), "#define M 3", "#endif"}
	p = append(p, "\tvar g : int = M;", "fn f() {", d.statement(), "}", "fn main() {")
	for range 2 + d.roll(3) {
		p = append(p, d.statement())
		if d.roll(2) == 0 {
			p = append(p, pick(d, "#ifdef ", "#ifndef ")+pick(d, features...), d.statement())
			switch d.roll(6) {
			case 0, 1:
				p = append(p, "#else", d.statement())
			case 2:
				p = append(p, "#error")
			}
			p = append(p, "#endif")
		}
	}
	return append(p, "}")
}

// changed is the program with a line that is changed, or with none.
func (d *dice) changedProgram(p program) program {
	p = slices.Clone(p)
	for {
		k := d.roll(len(p))
		switch {
		case d.roll(8) == 0:
			return p
		case strings.HasPrefix(p[k], "\t"):
			p[k] = pick(d, d.statement(), p[k]+d.statement(), "")
			if d.roll(2) == 0 {
				return p
			}
		}
	}
}

func (p program) files() []api.File { return main(strings.Join(p, "\n")) }

// eachChange does something with pairs of programs.
func eachChange(n int, do func(d *dice, old, new []api.File)) {
	d := newDice()
	for range n {
		p := d.program()
		do(d, p.files(), d.changedProgram(p).files())
	}
}

// plain is what the plain tools make of a configuration.
type plain struct {
	list source.List
	tree syntax.Tree
	run.Outcome
}

func plainOf(t testing.TB, files []api.File, c uint32, in []int64, fuel int) plain {
	t.Helper()
	list, e := source.Plain(files, features, c)
	if e != api.OK {
		t.Fatalf("Plain of %q: %v", files, e)
	}
	tree := syntax.Plain(list, c)
	o, e := run.Plain(tree, c, in, fuel)
	if e != api.OK {
		t.Fatal("Plain:", e)
	}
	return plain{list, tree, o}
}

func (p plain) good() bool { return len(p.list.Diags) == 0 && p.Status != api.Rejected }

func sameTokens(a, b source.List) bool {
	return slices.EqualFunc(a.Tokens, b.Tokens, func(x, y source.Token) bool { return x.Kind == y.Kind && x.Text == y.Text })
}

// wantedReport goes through the configurations one by one.
func wantedReport(t testing.TB, old, new []api.File, within diagram.D, in []int64, fuel int) evolve.Report {
	t.Helper()
	var r evolve.Report
	for c := range uint32(1) << len(features) {
		here := diagram.Cube(c, ^c&(1<<len(features)-1)).And(within)
		add := func(d *diagram.D, differ bool) {
			if differ {
				*d = d.Or(here)
			}
		}
		a, b := plainOf(t, old, c, in, fuel), plainOf(t, new, c, in, fuel)
		alike, e := syntax.Like(a.tree, b.tree, all)
		if e != api.OK {
			t.Fatal("Like:", e)
		}
		add(&r.Tokens, !sameTokens(a.list, b.list))
		add(&r.Trees, !alike.Full())
		add(&r.Good, a.good() != b.good())
		add(&r.Runs, a.Status != b.Status || !slices.Equal(a.Out, b.Out))
	}
	return r
}

// P10.5

func TestSources(t *testing.T) {
	counts := map[string]int{}
	eachChange(300, func(d *dice, old, new []api.File) {
		within := pick(d, all, d.someSet(len(features)), d.someSet(len(features)+1))
		in := []int64{int64(d.roll(3)), int64(d.roll(3))}[:d.roll(3)]
		fuel := pick(d, 100, d.roll(10))
		got, e := evolve.Sources(old, new, features, within, in, fuel)
		want := wantedReport(t, old, new, within, in, fuel)
		for what, sets := range map[string][2]diagram.D{
			"Tokens": {got.Tokens, want.Tokens}, "Trees": {got.Trees, want.Trees},
			"Good": {got.Good, want.Good}, "Runs": {got.Runs, want.Runs},
		} {
			if e != api.OK || !sets[0].Same(sets[1]) {
				t.Fatalf("%s: %v\n%s\n\n%s", what, e, old[0].Text, new[0].Text)
			}
			if !sets[0].Empty() {
				counts[what]++
			}
		}
		// P10.13
		if !got.Trees.Within(got.Tokens) || !got.Runs.Within(got.Trees) || !got.Tokens.Within(within) {
			t.Fatalf("not quiet\n%s\n\n%s", old[0].Text, new[0].Text)
		}
		if got.Tokens.Same(got.Trees) && got.Trees.Same(got.Runs) {
			counts["equal"]++
		}
	})
	if counts["Tokens"] < 150 || counts["Trees"] < 120 || counts["Good"] < 20 || counts["Runs"] < 60 || counts["equal"] > 240 {
		t.Errorf("the sources are too simple: %v", counts)
	}
}

// What makes a difference in each of the four, and what does not.
func TestSourcesDiffer(t *testing.T) {
	a := has(0)
	around := func(text string) []api.File { return main("fn main() {\n#ifdef A\n" + text + "\n#endif\n}") }
	for _, x := range []struct {
		old, new                  string
		tokens, trees, good, runs bool
	}{
		{"print 1;", "print  1; // one", false, false, false, false},
		{"print 1;", "#error\nprint 1;", false, false, true, false},
		{"print (1);", "print 1;", true, false, false, false},
		{"print 1 + 2;", "print 3;", true, true, false, false},
		{"print 1;", "print 2;", true, true, false, true},
		{"print 1;", "{ print 1; }", true, true, false, false},
		{"print 1;", "print 1; print 1;", true, true, false, true},
		{"print 1;", "print 1", true, true, true, true},
		{"print 1", "print", true, false, false, false},
		{"print 1;", "print x;", true, true, true, true},
		{"print x;", "print y;", true, true, false, false},
		{"print 1", "print x;", true, true, false, false},
		{"print 1 / read;", "print 1 % read;", true, true, false, false},
		{"print 1 / read;", "{ assert 1 == read; }", true, true, false, true},
		{"print 1; print 2 / read;", "print 1; assert false;", true, true, false, true},
	} {
		got, e := evolve.Sources(around(x.old), around(x.new), features, all, nil, 100)
		want := func(differ bool) diagram.D {
			if differ {
				return a
			}
			return none
		}
		if e != api.OK || !got.Tokens.Same(want(x.tokens)) || !got.Trees.Same(want(x.trees)) ||
			!got.Good.Same(want(x.good)) || !got.Runs.Same(want(x.runs)) {
			t.Errorf("%s, %s: %v, %v", x.old, x.new, got, e)
		}
		back, e := evolve.Sources(around(x.new), around(x.old), features, a.Not(), nil, 100)
		if e != api.OK || back != (evolve.Report{}) {
			t.Errorf("%s, %s without A: %v, %v", x.old, x.new, back, e)
		}
	}
}

// Runs depend on the inputs and on the fuel.
func TestSourcesInputs(t *testing.T) {
	old, new := main("fn main() { print 6 / read; print 1; }"), main("fn main() { print read; print 1; }")
	for _, x := range []struct {
		in   []int64
		fuel int
		same bool
	}{
		{nil, 100, false}, {[]int64{1}, 100, false}, {[]int64{-3}, 100, false}, {[]int64{1}, 1, false}, {[]int64{1}, 0, true},
		{[]int64{3}, 100, false}, {[]int64{6}, 100, false}, {nil, 0, true}, {nil, api.MaxFuel, false},
	} {
		got, e := evolve.Sources(old, new, nil, all, x.in, x.fuel)
		if e != api.OK || got.Runs.Empty() != x.same || got.Runs.Full() == x.same || !got.Tokens.Full() {
			t.Errorf("with %v and the fuel %d: %v, %v", x.in, x.fuel, got, e)
		}
	}
	// Outputs are numbers in a row, not only digits.
	first, second := main("fn main() { print 1; print 23; }"), main("fn main() { print 12; print 3; }")
	if got, e := evolve.Sources(first, second, nil, all, nil, 100); e != api.OK || !got.Runs.Full() {
		t.Errorf("outputs with the same digits: %v, %v", got, e)
	}
	// Statuses, too: 1 output more is another run, also where the status is the same.
	if got, e := evolve.Sources(first, first, nil, all, nil, 1); e != api.OK || got != (evolve.Report{}) {
		t.Errorf("the same files: %v, %v", got, e)
	}
}

func TestErrorsOfSources(t *testing.T) {
	good := main("fn main() { }")
	check := func(old, new []api.File, names []string, fuel int, want api.Errno) {
		t.Helper()
		if r, e := evolve.Sources(old, new, names, all, nil, fuel); e != want || r != (evolve.Report{}) {
			t.Errorf("Sources: %v, %v, want %v", r, e, want)
		}
		for _, tests := range [][]run.Test{nil, {{Name: "t"}}} {
			if l, e := evolve.Regress(old, new, names, all, tests, fuel); e != want || len(l) != 0 {
				t.Errorf("Regress: %v, %v, want %v", l, e, want)
			}
		}
	}
	for want, bad := range badFiles() {
		check(bad, good, nil, -1, want)
		check(good, bad, nil, -1, want)
		for _, other := range badFiles() {
			check(bad, other, nil, 0, want)
		}
	}
	for want, l := range badNames() {
		for _, names := range l {
			check(good, good, names, -1, want)
		}
	}
	check(good, good, []string{"defined"}, 0, api.ErrName)
	for _, fuel := range []int{-1, -1 << 62, api.MaxFuel + 1} {
		check(good, good, nil, fuel, api.ErrRange)
	}
}

// P10.6

func TestRegress(t *testing.T) {
	broken, fixed := 0, 0
	eachChange(300, func(d *dice, old, new []api.File) {
		within := pick(d, all, d.someSet(len(features)))
		var tests []run.Test
		for range 1 + d.roll(3) {
			c := uint32(d.roll(1 << len(features)))
			x := run.Test{In: []int64{int64(d.roll(3)), int64(d.roll(3))}[:d.roll(3)]}
			x.Want = plainOf(t, pick(d, old, new), c, x.In, 100).Out
			tests = append(tests, x)
		}
		fuel := pick(d, 100, 100, d.roll(10))
		l, e := evolve.Regress(old, new, features, within, tests, fuel)
		if e != api.OK || len(l) != len(tests) {
			t.Fatalf("Regress: %v, %v", l, e)
		}
		for k, x := range tests {
			var want evolve.Verdict
			for c := range uint32(1) << len(features) {
				here := diagram.Cube(c, ^c&(1<<len(features)-1)).And(within)
				before, after := passes(t, old, c, x, fuel), passes(t, new, c, x, fuel)
				switch {
				case before && !after:
					want.Broken = want.Broken.Or(here)
				case after && !before:
					want.Fixed = want.Fixed.Or(here)
				}
			}
			if l[k] != want {
				t.Fatalf("Regress of %v: %v, want %v\n%s\n\n%s", x, l[k], want, old[0].Text, new[0].Text)
			}
			if !want.Broken.Empty() {
				broken++
			}
			if !want.Fixed.Empty() {
				fixed++
			}
		}
	})
	if broken < 20 || fixed < 20 {
		t.Errorf("only %d tests are broken, and %d fixed", broken, fixed)
	}
}

func passes(t testing.TB, files []api.File, c uint32, x run.Test, fuel int) bool {
	t.Helper()
	p := plainOf(t, files, c, x.In, fuel)
	return p.Status == api.Done && slices.Equal(p.Out, x.Want)
}

func TestRegressExamples(t *testing.T) {
	a := has(0)
	old := main("fn main() {\n#ifdef A\nprint 1;\n#else\nprint read;\n#endif\n}")
	new := main("fn main() {\n#ifdef A\nprint 2;\n#else\nprint 2 / read;\n#endif\n}")
	tests := []run.Test{
		{Name: "one", In: []int64{1}, Want: []int64{1}}, // passes everywhere; then nowhere
		{Name: "two", In: []int64{2}, Want: []int64{2}}, // passes without A; then with A
		{Name: "none"}, // fails
		{Name: "zero", Want: []int64{0}},
	}
	want := []evolve.Verdict{{Broken: all}, {Broken: a.Not(), Fixed: a}, {}, {Broken: a.Not()}}
	if l, e := evolve.Regress(old, new, features, all, tests, 100); !slices.Equal(l, want) || e != api.OK {
		t.Errorf("Regress: %v, %v", l, e)
	}
	want = []evolve.Verdict{{Broken: a}, {Fixed: a}, {}, {}}
	if l, e := evolve.Regress(old, new, features, a, tests, 100); !slices.Equal(l, want) || e != api.OK {
		t.Errorf("Regress with A: %v, %v", l, e)
	}
	if l, e := evolve.Regress(old, new, features, all, tests[:2], 0); !slices.Equal(l, make([]evolve.Verdict, 2)) || e != api.OK {
		t.Errorf("Regress without fuel: %v, %v", l, e)
	}
	if l, e := evolve.Regress(old, new, features, all, nil, 100); len(l) != 0 || e != api.OK {
		t.Errorf("Regress without tests: %v, %v", l, e)
	}
}
