package source_test

import (
	"cmp"
	"maps"
	"slices"
	"strconv"
	"strings"
	"testing"

	"motley/api"
	"motley/diagram"
	"motley/source"
)

// P6.5

func TestMentions(t *testing.T) {
	names := []string{"A", "B", "C", "inc"}
	for line, want := range map[string]uint32{
		"": 0, "A": 1, "x A + C // B": 5, "a AA _A A1": 0, "// A": 0, "A A inc": 9,
		"#if A\n#endif": 1, "#if defined(A) && defined B\n#endif": 3, "#if 1 // A\n#endif": 0,
		"#if 0\n#elif C + F(A)\n#endif": 5, "#if 0\nA\n#else // B\nC\n#endif // inc": 5,
		"#ifdef A\n#endif": 1, "#ifndef B\n#endif": 2, "#ifdef x\n#endif": 0,
		"#define M": 0, "#define M A B": 3, "#define M(A, x) x C": 4, "#define M(x) inc": 8,
		"#undef M": 0, "#error A": 0, "#include \"inc\"": 0, "#if 0\n#define M A\n#endif": 1,
	} {
		files := []api.File{{Name: "main", Text: line}, {Name: "inc", Text: ""}}
		if got, e := source.Mentions(files, names); got != want || e != api.OK {
			t.Errorf("Mentions of %q: %b, %v, want %b", line, got, e, want)
		}
	}
	files := []api.File{{Name: "main", Text: "A"}, {Name: "other", Text: "x\nB\n#ifdef C\n#endif"}}
	if got, e := source.Mentions(files, names); got != 7 || e != api.OK {
		t.Errorf("Mentions of two files: %b, %v", got, e)
	}
	if got, e := source.Mentions(file("A B"), nil); got != 0 || e != api.OK {
		t.Errorf("Mentions without names: %b, %v", got, e)
	}
	many := manyNames(24)
	if got, e := source.Mentions(file("n23 n0", "#if n7", "#endif"), many); got != 1<<23|1<<7|1 || e != api.OK {
		t.Errorf("Mentions with 24 names: %b, %v", got, e)
	}
}

func TestActive(t *testing.T) {
	each(t, 300, false, func(p project, d *dice) {
		within := someSet(d, len(p.names)+1)
		active, e := source.Active(p.files, p.names, within)
		if e != api.OK || len(active) != len(p.files) {
			t.Fatalf("Active of %q: %d files, %v", p, len(active), e)
		}
		for c := range uint32(2) << len(p.names) {
			r := refer(p.files, p.names, c)
			for k, f := range p.files {
				if len(active[k]) != len(linesOf(f.Text)) {
					t.Fatalf("Active of %q: %d lines of the file %d", p, len(active[k]), k)
				}
				for i, got := range active[k] {
					if want := r.active[[2]int{k, i + 1}] && within.Has(c); got.Has(c) != want {
						t.Fatalf("Active of %q: the line %d of the file %d is active in %b: %t", p, i+1, k, c, !want)
					}
				}
			}
		}
	})
}

func TestActiveByHand(t *testing.T) {
	a, all, none := diagram.Cube(1, 0), diagram.True(), diagram.False()
	files := []api.File{
		{Name: "main", Text: "#ifdef A\n#include \"x\"\n#else\n\n#endif\n#if 0\n#if 1\n#else\n#endif\n#endif\n"},
		{Name: "x", Text: "#if 0\n\n#elif 1\n#define M\n#endif"},
		{Name: "y", Text: "\n\n"},
		{Name: "z", Text: ""},
	}
	want := [][]diagram.D{{all, a, all, a.Not(), all, all, none, none, none, all}, {a, none, a, a, a}, {none, none}, {}}
	got, e := source.Active(files, []string{"A"}, all)
	if e != api.OK || !slices.EqualFunc(got, want, slices.Equal) {
		t.Errorf("Active: %v, %v", got, e)
	}
	got, e = source.Active(files, []string{"A"}, none)
	if e != api.OK || len(got) != 4 || slices.ContainsFunc(slices.Concat(got...), func(d diagram.D) bool { return !d.Empty() }) {
		t.Errorf("Active within nothing: %v, %v", got, e)
	}
	// A file that is included twice, in different configurations.
	files = []api.File{{Name: "main", Text: "#ifdef A\n#include \"x\"\n#endif\n#ifdef B\n#include \"x\"\n#endif"}, {Name: "x", Text: "x"}}
	got, e = source.Active(files, []string{"A", "B"}, all)
	if e != api.OK || !got[1][0].Same(a.Or(diagram.Cube(2, 0))) {
		t.Errorf("Active of a file that is included twice: %v, %v", got, e)
	}
}

// P6.6

func TestMacros(t *testing.T) {
	each(t, 300, false, func(p project, d *dice) {
		within := someSet(d, len(p.names)+1)
		l, e := source.Macros(p.files, p.names, within)
		if e != api.OK {
			t.Fatalf("Macros of %q: %v", p, e)
		}
		for k, m := range l {
			if m.Cond.Empty() || !m.Cond.Within(within) || k > 0 && cmp.Or(strings.Compare(l[k-1].Name, m.Name), l[k-1].Number-m.Number) >= 0 {
				t.Fatalf("Macros of %q: %v", p, l)
			}
		}
		for c := range uint32(2) << len(p.names) {
			got := map[string]definition{}
			for _, m := range l {
				if m.Cond.Has(c) {
					got[m.Name] = definition{m.Number, m.Call, m.Params, m.Body}
				}
			}
			want := map[string]definition{}
			if within.Has(c) {
				want = refer(p.files, p.names, c).table
			}
			if !maps.EqualFunc(got, want, func(a, b definition) bool {
				return a.number == b.number && a.call == b.call && slices.Equal(a.params, b.params) && slices.Equal(a.body, b.body)
			}) {
				t.Fatalf("Macros of %q in %b: %v, want %v", p, c, got, want)
			}
		}
	})
}

func TestMacrosByHand(t *testing.T) {
	files := []api.File{
		{Name: "main", Text: "#define b 1 +\n#ifdef A\n#define b(x, y) y(x)\n#include \"x\"\n#endif\n#ifdef B\n#include \"x\"\n#endif\n#define _\n#undef gone"},
		{Name: "x", Text: "#define gone\n#define z() <= // c"},
	}
	l, e := source.Macros(files, []string{"A", "B", "c"}, diagram.True())
	a, b := diagram.Cube(1, 0), diagram.Cube(2, 0)
	want := []source.Macro{
		{Name: "A", Body: []string{"1"}, Cond: a},
		{Name: "B", Body: []string{"1"}, Cond: b},
		{Name: "_", Number: 3, Cond: diagram.True()},
		{Name: "b", Number: 1, Body: []string{"1", "+"}, Cond: a.Not()},
		{Name: "b", Number: 2, Call: true, Params: []string{"x", "y"}, Body: []string{"y", "(", "x", ")"}, Cond: a},
		{Name: "c", Body: []string{"1"}, Cond: diagram.Cube(4, 0)},
		{Name: "z", Number: 5, Call: true, Body: []string{"<="}, Cond: a.Or(b)},
	}
	if e != api.OK || !slices.EqualFunc(l, want, func(a, b source.Macro) bool {
		return a.Name == b.Name && a.Number == b.Number && a.Call == b.Call && slices.Equal(a.Params, b.Params) &&
			slices.Equal(a.Body, b.Body) && a.Cond == b.Cond
	}) {
		t.Errorf("Macros: %v, %v", l, e)
	}
	if l, e := source.Macros(files, nil, diagram.False()); len(l) != 0 || e != api.OK {
		t.Errorf("Macros within nothing: %v, %v", l, e)
	}
}

// values shows cases: value, or none, and the configurations below 8.
func values(l []source.Case) string {
	var out []string
	for _, x := range l {
		s := strconv.FormatInt(x.Value, 10)
		if !x.OK {
			s = "none " + s
		}
		for c := range x.Cond.All(3) {
			s += " " + strconv.Itoa(int(c))
		}
		out = append(out, s)
	}
	return strings.Join(out, ", ")
}

func TestValueByHand(t *testing.T) {
	files := file("#ifdef A", "#define F(x) x x", "#else", "#define F 7", "#endif", "#undef M", "#if 1", "#define BIG "+strings.Repeat("1 ", 250), "#endif")
	for expr, want := range map[string]string{
		"1":                             "1 0 1 2 3 4 5 6 7",
		"-A * 3 + B":                    "-3 1 5, -2 3 7, 0 0 4, 1 2 6",
		"A - B":                         "-1 2 6, 0 0 3 4 7, 1 1 5",
		"F":                             "0 1 3 5 7, 7 0 2 4 6",
		"F(1)":                          "none 0 0 1 2 3 4 5 6 7",
		"F(-1) // c":                    "-2 1 3 5 7, none 0 0 2 4 6",
		"defined F + !A":                "1 1 3 5 7, 2 0 2 4 6",
		"1 / A":                         "0 0 2 4 6, 1 1 3 5 7",
		"A B":                           "none 0 0 1 2 3 4 5 6 7",
		"1 + ":                          "none 0 0 1 2 3 4 5 6 7",
		"#":                             "error 4",
		"":                              "error 4",
		"// 1":                          "error 4",
		"1 @":                           "error 4",
		"1 // \x80":                     "error 4",
		"2147483648":                    "error 4",
		strings.Repeat("! ", 256) + "1": "error 5",
		strings.Repeat("+ ", 300) + "@": "error 4",
		strings.Repeat("BIG ", 16):      "none 0 0 1 2 3 4 5 6 7",
		strings.Repeat("BIG ", 20):      "none 0 0 1 2 3 4 5 6 7",
		"0 * 2147483647 - 2147483647 * 2147483647 * 2 - 2147483647 * 4 - 2": "-9223372036854775808 0 1 2 3 4 5 6 7",
	} {
		l, e := source.Value(files, []string{"A", "B"}, diagram.True(), expr)
		got := values(l)
		if e != api.OK && len(l) == 0 {
			got = e.Error()
		}
		if got != want {
			t.Errorf("Value of %.60q: %s, want %s", expr, got, want)
		}
	}
	l, e := source.Value(files, []string{"A", "B"}, diagram.Cube(1, 2), "A + B")
	if values(l) != "1 1 5" || e != api.OK {
		t.Errorf("Value within a condition: %s, %v", values(l), e)
	}
	if l, e := source.Value(files, []string{"A", "B"}, diagram.False(), "A + B"); len(l) != 0 || e != api.OK {
		t.Errorf("Value within nothing: %v, %v", l, e)
	}
}

func TestValue(t *testing.T) {
	check := func(p project, d *dice, expr string) {
		within := someSet(d, len(p.names)+1)
		l, e := source.Value(p.files, p.names, within, expr)
		if e != api.OK {
			t.Fatalf("Value of %q: %v", expr, e)
		}
		for k, x := range l {
			if x.Cond.Empty() || !x.OK && (k+1 < len(l) || x.Value != 0) || k > 0 && x.OK && l[k-1].Value >= x.Value {
				t.Fatalf("Value of %q in %q: %v", expr, p, l)
			}
		}
		for c := range uint32(2) << len(p.names) {
			var got []result
			for _, x := range l {
				if x.Cond.Has(c) {
					got = append(got, result{value: x.Value})
					if !x.OK {
						got[0].code = api.CodeExpr
					}
				}
			}
			if !within.Has(c) {
				if len(got) != 0 {
					t.Fatalf("Value of %q in %q has %b", expr, p, c)
				}
				continue
			}
			want := refer(p.files, p.names, c).valueOf(textsOf(expr), word{})
			if want.code == api.CodeLong {
				want.code = api.CodeExpr
			}
			if len(got) != 1 || got[0] != want {
				t.Fatalf("Value of %q in %q, %b: %v, want %v", expr, p, c, got, want)
			}
		}
	}
	each(t, 300, true, func(p project, d *dice) {
		m := maker{dice: d, names: p.names, macros: []string{"M", "N", "O", "F", "G", "H"}, calls: map[string]int{"G": 1, "H": 2}}
		check(p, d, m.condition())
	})
	d := dice(5)
	for range 5 {
		p := longProject(&d)
		m := maker{dice: &d}
		check(p, &d, "0 * "+m.bigLine())
		check(p, &d, "0 * D2(D2(D2(P - 1 - Q - 1 + )))")
	}
}
