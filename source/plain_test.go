package source_test

import (
	"strings"
	"testing"

	"motley/api"
	"motley/diagram"
	"motley/source"
)

// P6.2

// expanding are lines, and the texts and diagnostics of their list if the feature A is selected, and if it is not.
type expanding struct {
	lines   []string
	with    string
	without string // also the codes, behind a bar
}

func (x expanding) check(t *testing.T) {
	t.Helper()
	for c, want := range []string{x.without, x.with} {
		if !strings.Contains(want, "|") {
			want += "|"
		}
		l := plain(t, file(x.lines...), []string{"A"}, uint32(c))
		if got := texts(l) + "|" + codes(l); got != want {
			t.Errorf("%q in %d: %s, want %s", x.lines, c, got, want)
		}
		f := source.Project(family(t, file(x.lines...), []string{"A"}, diagram.True()), uint32(c))
		if !source.Same(l, f) {
			t.Errorf("%q in %d: the projection is %s|%s", x.lines, c, texts(f), codes(f))
		}
	}
}

func TestExpansion(t *testing.T) {
	for _, x := range []expanding{
		// the examples
		{[]string{"#define TWO(a) a a", "TWO(A z)"}, "1 z 1 z", "A z A z"},
		{[]string{"#define F F + 1", "F"}, "F + 1", "F + 1"},
		{[]string{"#define G(a) a", "G"}, "G", "G"},
		{[]string{"#define G(a) a", "G("}, "G (|1 at 2 0", "G (|1 at 2 0"},
		// object-like macros
		{[]string{"#define M", "a M b"}, "a b", "a b"},
		{[]string{"#define M N A", "#define N M + N", "M N"}, "M + N 1 N 1 + N", "M + N A N A + N"},
		{[]string{"M", "#define M 1", "M", "#define M 2", "M", "#undef M", "M", "#undef M"}, "M 1 2 M", "M 1 2 M"},
		{[]string{"#define M 1", "#ifdef A", "#undef M", "#endif", "M"}, "M", "1"},
		{[]string{"#define M (", "#define F(x) x", "F M 1 )"}, "F ( 1 )", "F ( 1 )"},
		{[]string{"#define M F", "#define F(x) x", "M(1)"}, "F ( 1 )", "F ( 1 )"},
		// function-like macros
		{[]string{"#define F() 7", "F() F( ) F F(1) F(,)"}, "7 7 F F ( 1 ) F ( , )|1 at 2 7, 1 at 2 11",
			"7 7 F F ( 1 ) F ( , )|1 at 2 7, 1 at 2 11"},
		{[]string{"#define F(x) < x >", "F() F(1) F(1 2) F((1,2)) F(1,2) F(,)"},
			"< > < 1 > < 1 2 > < ( 1 , 2 ) > F ( 1 , 2 ) F ( , )|1 at 2 20, 1 at 2 26",
			"< > < 1 > < 1 2 > < ( 1 , 2 ) > F ( 1 , 2 ) F ( , )|1 at 2 20, 1 at 2 26"},
		{[]string{"#define F(x, y) y x", "F(1,2) F(,) F(,3) F((,),;) F(1)"}, "2 1 3 ; ( , ) F ( 1 )|1 at 2 23", "2 1 3 ; ( , ) F ( 1 )|1 at 2 23"},
		{[]string{"#define F(x) x", "F(F(1)) F(F)(2) F((F(3)))"}, "1 F ( 2 ) ( 3 )", "1 F ( 2 ) ( 3 )"},
		{[]string{"#define F(x) G(x", "#define G(x) x", "F(1))"}, "G ( 1 )|1 at 3 0 1 0", "G ( 1 )|1 at 3 0 1 0"},
		{[]string{"#define F(x) F(x)", "F(A)"}, "F ( 1 )", "F ( A )"},
		{[]string{"#define F(x) M", "#define M x", "F(1)"}, "x", "x"},
		{[]string{"#define F(A) A", "F(2) A"}, "2 1", "2 A"},
		{[]string{"#define F(G) G(1)", "#define G(x) x x", "F(G) F(2)"}, "G ( 1 ) 2 ( 1 )", "G ( 1 ) 2 ( 1 )"},
		{[]string{"#define F(x) G(x)", "#define G(y) y x", "F(1)"}, "1 x", "1 x"},
		{[]string{"#define F(x) G(x, x)", "#define G(x, y) y - x", "F(A)"}, "1 - 1", "A - A"},
		{[]string{"#define F(x) 0", "F(M( G(A)", "#define G(x)", "F(G(A,A))"},
			"F ( M ( G ( 1 ) 0|1 at 2 0, 1 at 4 2", "F ( M ( G ( A ) 0|1 at 2 0, 1 at 4 2"},
		{[]string{"#define F(x) x", "F", "(1)"}, "F ( 1 )", "F ( 1 )"},
		// macros that are different in the configurations
		{[]string{"#ifdef A", "#define F(x) x", "#else", "#define F f", "#endif", "F(1) F F(F(2), 3"},
			"1 F F ( 2 , 3|1 at 6 5", "f ( 1 ) f f ( f ( 2 ) , 3"},
		{[]string{"#ifdef A", "#define F(x) x", "#else", "#define F(x, y) y", "#endif", "F(1) F(1,2) F"},
			"1 F ( 1 , 2 ) F|1 at 6 4", "F ( 1 ) 2 F|1 at 6 0"},
		{[]string{"#ifdef A", "#define F(x) x", "#endif", "F(F(1))"}, "1", "F ( F ( 1 ) )"},
		{[]string{"#ifdef A", "#define F() 1", "#else", "#define F(x) 2", "#endif", "F() F(3)"}, "1 F ( 3 )|1 at 6 3", "2 2"},
		// lines that are no text
		{[]string{"#error", "#ifdef A", "#error", "#endif"}, "|3 at 1, 3 at 3", "|3 at 1"},
		{[]string{"", "// A", "\t"}, "", ""},
		{nil, "", ""},
	} {
		x.check(t)
	}
}

func TestConditionals(t *testing.T) {
	for _, x := range []expanding{
		{[]string{"#ifdef A", "a", "#else", "b", "#endif", "c"}, "a c", "b c"},
		{[]string{"#ifndef A", "a", "#else", "b", "#endif", "c"}, "b c", "a c"},
		{[]string{"#if 0", "a", "#elif A", "b", "#elif 1", "c", "#else", "d", "#endif"}, "b", "c"},
		{[]string{"#if A", "a", "#elif +", "b", "#elif A + 1", "c", "#endif"}, "a", "c|4 at 3"},
		{[]string{"#if 0", "#if +", "#error", "#elif 1", "a", "#else", "b", "#endif", "#define M", "#else", "c", "#endif", "M"},
			"c M", "c M"},
		{[]string{"#ifdef A", "#ifdef A", "a", "#else", "b", "#endif", "#else", "#ifdef A", "c", "#else", "d", "#endif", "#endif"}, "a", "d"},
		{[]string{"#if 1 +", "a", "#else", "b", "#endif"}, "b|4 at 1", "b|4 at 1"},
		{[]string{"#if 0", "#elif )", "a", "#else", "b", "#endif"}, "b|4 at 2", "b|4 at 2"},
		{[]string{"#define M", "#if M", "a", "#endif", "#ifdef M", "b", "#endif"}, "b|4 at 2", "b|4 at 2"},
		{[]string{"#define F(x) x", "#if F(1", "#elif F(A,) + 1", "#elif F((2))", "a", "#endif"},
			"a|4 at 2, 1 at 2 0, 4 at 3, 1 at 3 0", "a|4 at 2, 1 at 2 0, 4 at 3, 1 at 3 0"},
		{[]string{"#if A", "#elif A", "#elif 1", "#if A", "#else", "a", "#endif", "#else", "b", "#endif"}, "", "a"},
		{[]string{"#ifdef defined", "a", "#endif", "#ifndef defined", "b", "#endif"}, "b", "b"},
	} {
		x.check(t)
	}
}

func TestIncludes(t *testing.T) {
	files := []api.File{
		{Name: "main", Text: "#include \"b\"\nx M\n# include\"b\" // again\nM\n#ifdef A\n#include \"c\"\n#endif"},
		{Name: "c", Text: "#define N 3\nN M"},
		{Name: "b", Text: "M\n#ifdef M\n#undef M\n#include \"c\"\n#else\n#define M 2\n#endif\n#error"},
		{Name: "d", Text: "#define M 4"},
	}
	l := plain(t, files, []string{"A"}, 1)
	var got []string
	for _, x := range l.Tokens {
		got = append(got, x.Text+" at "+numbers(x.Path...)+" of "+numbers(x.File, x.Line))
	}
	want := []string{
		"M at 1 1 0 of 2 1", "x at 2 0 of 0 2", "2 at 2 1 2 0 of 0 2", "2 at 3 1 0 2 0 of 2 1",
		"3 at 3 4 2 0 1 0 of 1 2", "M at 3 4 2 1 of 1 2", "M at 4 0 of 0 4", "3 at 6 2 0 1 0 of 1 2", "M at 6 2 1 of 1 2",
	}
	if strings.Join(got, "\n") != strings.Join(want, "\n") || codes(l) != "3 at 1 8, 3 at 3 8" ||
		l.Diags[0].File != 2 || l.Diags[0].Line != 8 {
		t.Errorf("%s; %s", strings.Join(got, "\n"), codes(l))
	}
}

func TestPaths(t *testing.T) {
	for _, x := range []struct {
		lines []string
		want  string
	}{
		{[]string{"#define TWO(a) a a", "TWO(A z)"}, "2 0 1 0 2 2 0 0, 2 0 1 0 2 3, 2 0 1 1 2 2 0 0, 2 0 1 1 2 3"},
		{[]string{"a A", "", "b"}, "1 0, 1 1 0 0, 3 0"},
		{[]string{"#define M 1", "#define N M + M", "#define M 2", "N M"}, "4 0 2 0 3 0, 4 0 2 1, 4 0 2 2 3 0, 4 1 3 0"},
		{[]string{"#define F(x) G(x)", "#define G(x) + x", "F(7)"}, "3 0 1 0 2 0, 3 0 1 0 2 1 3 0 1 2 3 2"},
	} {
		var got []string
		for _, y := range plain(t, file(x.lines...), []string{"A"}, 1).Tokens {
			got = append(got, numbers(y.Path...))
		}
		if strings.Join(got, ", ") != x.want {
			t.Errorf("%q: %s, want %s", x.lines, strings.Join(got, ", "), x.want)
		}
	}
}

// The expressions of ifs, and what they are: 1, 0, or none.
func TestExpressions(t *testing.T) {
	minus := func(n int, s string) string { return strings.Repeat("- ", n) + s }
	nested := func(n int, s string) string { return strings.Repeat("(", n) + s + strings.Repeat(")", n) }
	for expr, want := range map[string]string{
		"1": "1", "0": "0", "7": "1", "x": "0", "x == 0": "1", "A": "1", "B": "0", "defined": "0",
		"defined A": "1", "defined(A)": "1", "defined B": "0", "defined ( B )": "0", "!defined A": "0", "!defined B": "1",
		"defined defined": "0", "defined defined A": "none", "defined(defined)": "0", "defined (A": "none", "defined 1": "none",
		"defined ((A))": "none", "defined + 1": "1", "defined M": "1", "HAS": "none", "defined F": "1", "F(defined(A)) == 1": "1",
		"2 + 3 * 4 == 14": "1", "(2 + 3) * 4 == 20": "1", "10 - 2 - 3 == 5": "1", "100 / 10 / 2 == 5": "1", "7 % 4 % 2 == 1": "1",
		"2 * 7 % 4 == 2": "1", "8 / 2 * 4 == 16": "1", "1 - 2 + 3 == 2": "1", "-7 / 2 == -3": "1", "-7 % 2 == -1": "1",
		"7 / -2 == -3": "1", "7 % -2 == 1": "1", "5 / 0": "0", "5 % 0": "0", "5 / 0 == 0": "1", "0 - 1 < 0": "1",
		"1 < 2": "1", "2 < 1": "0", "1 <= 1": "1", "2 > 1": "1", "1 > 1": "0", "1 >= 1": "1", "1 >= 2": "0", "1 != 2": "1", "1 != 1": "0",
		"1 < 2 < 3": "none", "1 == 1 == 1": "none", "(1 == 1) == 1": "1", "1 < 2 && 2 < 3": "1", "1 == 1 != 0": "none",
		"0 || 0": "0", "0 || 2": "1", "2 || 0": "1", "2 && 1": "1", "2 && 0": "0", "0 && 1 || 1": "1", "1 || 1 && 0": "1",
		"(1 || 1) && 0": "0", "(2 && 4) == 1": "1", "(0 || 4) == 1": "1", "!7": "0", "!0 == 1": "1", "!!7 == 1": "1",
		"-1 + 1": "0", "!1 + 1 == 1": "1", "- - 1 == 1": "1", "-!0 == 0 - 1": "1", "!-1": "0", "1 - -1 == 2": "1", "1 + !0 * 2 == 3": "1",
		"2147483647 * 2147483647 * 2 + 2147483647 * 4 > 0":             "1",
		"2147483647 * 2147483647 * 2 + 2147483647 * 4 + 1 > 0":         "1",
		"2147483647 * 2147483647 * 2 + 2147483647 * 4 + 2 < 0":         "1",
		"(2147483647 * 2147483647 * 2 + 2147483647 * 4 + 2) / -1 < 0":  "1",
		"(2147483647 * 2147483647 * 2 + 2147483647 * 4 + 2) % -1 == 0": "1",
		"-(2147483647 * 2147483647 * 2 + 2147483647 * 4 + 2) < 0":      "1",
		"1 +": "none", "+ 1": "none", "1 1": "none", "()": "none", "(1": "none", "1)": "none", "1 2": "none", "!": "none", "1 !": "none",
		"1 !0": "none", "1 (2)": "none", "(1) (2)": "none", "x x": "none", "x(1)": "none", "F": "0", "F(1)": "1", "F()": "none", "F(1,2)": "none",
		"1 , 2": "none", "1 ; 2": "none", "{": "none", "1 = 1": "none", "*1": "none", "1 && ": "none", "&& 1": "none", "(1 ||) 1": "none",
		"E": "none", "E 1": "1", "1 E": "1", "P 1": "0", "P 0": "1", "P P": "none", "1 P": "none", "A(1)": "none", "2 ) + ( 3": "none",
		minus(64, "1") + " == 1": "1", minus(65, "1"): "none", nested(64, "1"): "1", nested(65, "1"): "none",
		nested(32, minus(32, "1")): "1", nested(32, minus(33, "1")): "none", minus(32, nested(32, "1")): "1", minus(33, nested(32, "1")): "none",
		nested(64, "1") + " + " + minus(64, "1"): "1", nested(63, "1 + "+minus(1, "2")): "1", nested(63, "1 + "+minus(2, "2")): "none",
	} {
		files := file("#define HAS defined(A)", "#define F(x) x", "#define E", "#define P 1 -", "#define M", "#if "+expr, "yes", "#else", "no", "#endif")
		l := plain(t, files, []string{"A", "B"}, 1)
		got := map[string]string{"yes|": "1", "no|": "0", "no|4 at 6": "none"}[texts(l)+"|"+codes(l)]
		if f := codes(l); strings.HasPrefix(f, "4 at 6, 1 at 6") {
			got = "none"
		}
		if got != want {
			t.Errorf("%.80s: %s, want %s (%s; %s)", expr, got, want, texts(l), codes(l))
		}
	}
}

// A chain of macros M0, M1 and so on leads to the last one, at this depth.
func chain(length int, last string) []string {
	var lines []string
	for i := range length {
		next := "M" + numbers(i+1)
		if i+1 == length {
			next = last
		}
		lines = append(lines, "#define M"+numbers(i)+" "+next)
	}
	return lines
}

func TestDepth(t *testing.T) {
	l := plain(t, file(append(chain(16, "x y"), "M0")...), nil, 0)
	if texts(l) != "x y" || codes(l) != "" {
		t.Errorf("16 levels: %s; %s", texts(l), codes(l))
	}
	l = plain(t, file(append(chain(17, "x y"), "M0 M1", "#if M0", "#elif M1 == 0", "#endif")...), nil, 0)
	at := ""
	for i := range 16 {
		at += " " + numbers(i+1) + " 0"
	}
	want := "2 at 18 0" + at + ", 2 at 19 0" + at + ", 4 at 20"
	if texts(l) != "M16 x y" || codes(l) != want {
		t.Errorf("17 levels: %s; %s, want %s", texts(l), codes(l), want)
	}
	// Pieces are deeper than what they are in, and the depth is looked at before the ( and the ) .
	deep := func(n int) string { return strings.Repeat("F(", n) + "A" + strings.Repeat(")", n) }
	for n, want := range map[int]string{
		15: "1|", 16: "A|2", 17: "F ( A )|2",
	} {
		l = plain(t, file("#define F(x) x", deep(n)), []string{"A"}, 1)
		got := texts(l) + "|"
		if len(l.Diags) > 0 {
			got += numbers(int(l.Diags[0].Code))
		}
		if got != want {
			t.Errorf("%d levels: %s; %s, want %s", n, texts(l), codes(l), want)
		}
	}
	l = plain(t, file(append(chain(16, "F F( F() x"), "#define F(x) x", "M0")...), nil, 0)
	if texts(l) != "F F ( F ( ) x" || len(l.Diags) != 2 || l.Diags[0].Code != api.CodeDeep || l.Diags[1].Code != api.CodeDeep {
		t.Errorf("calls at the last level: %s; %s", texts(l), codes(l))
	}
}

// steps is a line that takes so many steps, from 1026 on, and the definitions for it.
func steps(n int) []string {
	lines := []string{"#define TEN(x) x x x x x x x x x x", "#define BIG " + strings.Repeat("7 ", 255)}
	line := ""
	for ; n > 1500; n -= 256 {
		line += "BIG " // one step for the name, and 255 for the body
	}
	line += "TEN( " + strings.Repeat("1 ", 99) + ")" // one step for the name, 99 for the piece, and 10 * 100 for the body
	return append(lines, line+tail(n-1100))
}

// tail takes so many steps, at most 400.
func tail(n int) string {
	if n >= 256 {
		return " BIG" + tail(n-256)
	}
	if n < 0 {
		panic("too few steps")
	}
	if n > 40 {
		return " TEN(1)" + tail(n-22)
	}
	return strings.Repeat(" 1", n)
}

func TestSteps(t *testing.T) {
	for _, n := range []int{1100, 1400, 3000, 4000, 4095, 4096, 4097, 4200} {
		lines := steps(n)
		r := refer(file(lines...), nil, 0)
		l := plain(t, file(lines...), nil, 0)
		if n <= 4096 && (r.most != n || len(l.Tokens) == 0 || len(l.Diags) != 0) {
			t.Errorf("%d steps (of the reference: %d): %d tokens; %s", n, r.most, len(l.Tokens), codes(l))
		}
		if n > 4096 && (len(l.Tokens) != 0 || codes(l) != "5 at 3") {
			t.Errorf("%d steps: %d tokens; %s", n, len(l.Tokens), codes(l))
		}
	}
	// Other diagnostics of a line that is too long are left out; other lines stay as they are.
	long := steps(4096)
	lines := append(long[:2:2], "a TEN(", long[2]+" TEN( BIG A(", "b", "#if "+long[2]+" ) 1", "c", "#elif TEN(", "d", "#else", "e", "#endif")
	l := plain(t, file(lines...), nil, 0)
	if texts(l) != "a TEN ( b e" || codes(l) != "1 at 3 1, 5 at 4, 5 at 6, 4 at 8, 1 at 8 0" {
		t.Errorf("long lines: %s; %s", texts(l), codes(l))
	}
	// The features make the difference.
	lines = append(long[:2:2], strings.TrimSuffix(long[2], " 1")+" A", "z")
	f := family(t, file(lines...), []string{"A"}, diagram.True())
	if codes(f) != "5 at 3" || !f.Diags[0].Cond.Same(diagram.Cube(1, 0)) {
		t.Errorf("a line that is too long with A: %s", codes(f))
	}
	for c := range uint32(2) {
		if !refer(file(lines...), []string{"A"}, c).same(source.Project(f, c)) {
			t.Errorf("the line in %d", c)
		}
	}
}
