package source_test

import (
	"slices"
	"strconv"
	"strings"
	"testing"

	"motley/api"
	"motley/diagram"
	"motley/source"
)

// bad is a line with an error, or a good one.
type bad struct {
	line string
	want api.Errno
}

// badLines are checked in a file with the features A and B, where inc is a file, and no conditional is open.
func badLines() []bad {
	long := strings.Repeat("a", 33)
	wide := strings.Repeat("a ", 256)
	return []bad{
		// bytes and tokens
		{"a @", api.ErrForm}, {"a // \x01", api.ErrForm}, {"\x80", api.ErrForm}, {"a\r", api.ErrForm}, {"1a", api.ErrForm},
		{"a # b", api.ErrForm}, {long, api.ErrForm}, {wide, api.OK}, {wide + "a", api.ErrLimit}, {wide + "a @", api.ErrForm},
		{"", api.OK}, {" \t", api.OK}, {"// @ # \"", api.OK}, {"~", api.ErrForm}, {"// ~", api.OK},
		// words
		{"#", api.ErrForm}, {"# // if", api.ErrForm}, {"#foo", api.ErrForm}, {"#IF 1", api.ErrForm}, {"#iff 1", api.ErrForm},
		{"##error", api.ErrForm}, {"#1", api.ErrForm}, {"#_error", api.ErrForm}, {"#defined A", api.ErrForm},
		// error
		{"#error", api.OK}, {"\t # \t error @ \" ' `", api.OK}, {"#error1", api.OK}, {"#error_", api.OK}, {"#errors", api.ErrForm},
		{"#error \x80", api.ErrForm}, {"#error" + strings.Repeat(" a", 999), api.OK},
		// undef
		{"#undef M", api.OK}, {"#undef", api.ErrForm}, {"#undef M N", api.ErrForm}, {"#undef 1", api.ErrForm},
		{"#undef M // N", api.OK}, {"#undef A", api.ErrName}, {"#undef defined", api.ErrName}, {"#undef +", api.ErrForm},
		{"#undef " + wide + "a", api.ErrForm}, {"#undef_M", api.OK}, {"#undef M @", api.ErrForm}, {"#undef inc", api.OK},
		// include
		{"#include \"inc\"", api.OK}, {"#include\"inc\"", api.OK}, {"#include \"inc\" \t", api.OK}, {"#include \"inc\"//@", api.OK},
		{"#include \"inc\" // \"", api.OK}, {"#include \"no\"", api.ErrName}, {"#include \"\"", api.ErrName},
		{"#include \" inc\"", api.ErrName}, {"#include \"INC\"", api.ErrName}, {"#include \"a//b @\"", api.ErrName},
		{"#include", api.ErrForm}, {"#include inc", api.ErrForm}, {"#include \"inc", api.ErrForm}, {"#include inc\"", api.ErrForm},
		{"#include \"inc\" x", api.ErrForm}, {"#include \"inc\" /", api.ErrForm}, {"#include \"inc\" \"inc\"", api.ErrForm},
		{"#include x \"inc\"", api.ErrForm}, {"#include // \"inc\"", api.ErrForm}, {"#include <inc>", api.ErrForm},
		{"#include \"in\x80\"", api.ErrForm}, {"#include_\"inc\"", api.ErrForm},
		// define
		{"#define M", api.OK}, {"#define M // @", api.OK}, {"#define", api.ErrForm}, {"#define 1", api.ErrForm},
		{"#define (M)", api.ErrForm}, {"#define M @", api.ErrForm}, {"#define M M 1 ( , + defined", api.OK},
		{"#define M()", api.OK}, {"#define M( )1", api.OK}, {"#define M(x)", api.OK}, {"#define M( x ,\ty ) y", api.OK},
		{"#define M(x", api.ErrForm}, {"#define M(", api.ErrForm}, {"#define M(,)", api.ErrForm}, {"#define M(x,)", api.ErrForm},
		{"#define M(,x)", api.ErrForm}, {"#define M(x y)", api.ErrForm}, {"#define M(x,,y)", api.ErrForm}, {"#define M(1)", api.ErrForm},
		{"#define M((x))", api.ErrForm}, {"#define M(x;y)", api.ErrForm}, {"#define M(x//)", api.ErrForm},
		{"#define M (", api.OK}, {"#define M (x", api.OK}, {"#define M\t(,)", api.OK}, {"#define  \tM() )", api.OK},
		{"#define M(a,b,c,d,e,f,g,h) a", api.OK}, {"#define M(a,b,c,d,e,f,g,h,i) a", api.ErrLimit},
		{"#define M(a,b,c,d,e,f,g,h,i) @", api.ErrForm}, {"#define A(a,b,c,d,e,f,g,h,i)", api.ErrLimit},
		{"#define A", api.ErrName}, {"#define B(x) x", api.ErrName}, {"#define defined", api.ErrName}, {"#define C", api.OK},
		{"#define M(defined)", api.ErrName}, {"#define M(defined, x, x)", api.ErrName}, {"#define M(A) A", api.OK},
		{"#define M(M) M", api.OK}, {"#define M(x, y, x)", api.ErrTwice}, {"#define M(x,x,a,b,c,d,e,f,g)", api.ErrLimit},
		{"#define A(x, x)", api.ErrName}, {"#define M(x, X)", api.OK}, {"#define inc", api.OK},
		{"#define " + wide, api.OK}, {"#define M " + wide, api.ErrLimit}, {"#define M(x) " + strings.Repeat("a ", 252), api.OK},
		{"#define M(x) " + strings.Repeat("a ", 253), api.ErrLimit}, {"#define A " + wide, api.ErrLimit},
		{"#define " + long, api.ErrForm}, {"#define M(" + long + ")", api.ErrForm}, {"#defineM", api.ErrForm}, {"#define_M", api.OK},
		// conditionals
		{"#endif", api.ErrState}, {"#else", api.ErrState}, {"#elif 1", api.ErrState}, {"#elif", api.ErrForm},
		{"#else 1", api.ErrForm}, {"#endif A", api.ErrForm}, {"#endif // A", api.ErrState}, {"#elif @", api.ErrForm},
		{"#elif 1 " + wide, api.ErrLimit}, {"#else" + strings.Repeat(" a", 300), api.ErrForm},
		{"#if", api.ErrForm}, {"#if // 1", api.ErrForm}, {"#if @", api.ErrForm}, {"#if 1 " + wide, api.ErrLimit},
		{"#ifdef", api.ErrForm}, {"#ifdef 1", api.ErrForm}, {"#ifdef A B", api.ErrForm}, {"#ifndef (A)", api.ErrForm},
		{"#ifndef", api.ErrForm}, {"#ifndef A +", api.ErrForm},
	}
}

// P6.1

func TestCheckLines(t *testing.T) {
	for _, x := range badLines() {
		files := []api.File{{Name: "main", Text: "z\n" + x.line + "\nz\n"}, {Name: "inc", Text: "i"}}
		wantLine := 2
		if x.want == api.OK {
			wantLine = 0
		}
		k, line, e := source.Check(files, []string{"A", "B"})
		if k != 0 || line != wantLine || e != x.want {
			t.Errorf("Check of %.60q: %d, %d, %v, want %v", x.line, k, line, e, x.want)
		}
	}
	for _, line := range []string{
		"#if 1", "#if" + strings.Repeat(" a", 256), "#if+", "#if1", " # if defined", "#ifdef A", "#ifdef M // @", "#ifndef defined", "#ifdef_A",
	} {
		if k, n, e := source.Check(file(line, "#elif A + // c", "#else // @", "#endif//"), []string{"A"}); k != 0 || n != 0 || e != api.OK {
			t.Errorf("Check of %.60q: %d, %d, %v", line, k, n, e)
		}
	}
}

func TestCheckConditionals(t *testing.T) {
	deep := func(n int) string { return strings.Repeat("#ifdef A\n", n) + strings.Repeat("#endif\n", n) }
	for text, want := range map[string]struct {
		line int
		e    api.Errno
	}{
		"#if 1\n#else\n#else\n#endif":                         {3, api.ErrState},
		"#if 1\n#else\n#elif 1\n#endif":                       {3, api.ErrState},
		"#if 1\n#else\n#elif\n#endif":                         {3, api.ErrForm},
		"#if 1\n#elif 1\n#elif 0\n#else\n#endif\n#endif":      {6, api.ErrState},
		"#if 1\n#else\n#if 1\n#else\n#endif\n#endif":          {0, api.OK},
		"#if 1\n#else\n#if 1\n#elif 1\n#endif\n#else\n#endif": {6, api.ErrState},
		"#if 1":                          {2, api.ErrState},
		"#if 1\n":                        {2, api.ErrState},
		"#if 1\n\n":                      {3, api.ErrState},
		"#ifdef A\n#endif\n#ifndef B\nx": {5, api.ErrState},
		deep(32):                         {0, api.OK},
		deep(33):                         {33, api.ErrLimit},
		deep(32) + deep(32):              {0, api.OK},
		strings.Repeat("#if 1\n", 33):    {33, api.ErrLimit},
		"":                               {0, api.OK},
		"\n\n":                           {0, api.OK},
	} {
		if k, line, e := source.Check(file(text), []string{"A"}); k != 0 || line != want.line || e != want.e {
			t.Errorf("Check of %.60q: %d, %d, %v, want %v", text, k, line, e, want)
		}
	}
	files := []api.File{{Name: "a", Text: "#include \"b\"\n#endif"}, {Name: "b", Text: "#if 1"}}
	if k, line, e := source.Check(files, nil); k != 0 || line != 2 || e != api.ErrState {
		t.Errorf("a conditional of two files: %d, %d, %v", k, line, e)
	}
}

// named are files with these names, each with a text.
func named(text string, names ...string) []api.File {
	var l []api.File
	for _, name := range names {
		l = append(l, api.File{Name: name, Text: text})
	}
	return l
}

func manyNames(n int) []string {
	var l []string
	for i := range n {
		l = append(l, "n"+strconv.Itoa(i))
	}
	return l
}

func TestCheckNames(t *testing.T) {
	long := strings.Repeat("a", 33)
	cases := []struct {
		files []api.File
		names []string
		file  int
		e     api.Errno
	}{
		{nil, nil, 0, api.ErrArg},
		{nil, manyNames(25), 0, api.ErrArg},
		{named("", manyNames(16)...), manyNames(24), 0, api.OK},
		{named("", manyNames(17)...), nil, 0, api.ErrLimit},
		{named("", "a"), manyNames(25), 0, api.ErrLimit},
		{named("@", slices.Repeat([]string{""}, 17)...), nil, 0, api.ErrLimit},
		{named("", "a.b-c_1", "-", ".", "..", long[:32], "defined", "1"), nil, 0, api.OK},
		{named("", ""), nil, 0, api.ErrName},
		{named("", "a", "a/b"), nil, 1, api.ErrName},
		{named("", "a", "b", "a b"), nil, 2, api.ErrName},
		{named("", "a", long), nil, 1, api.ErrName},
		{named("", "ä"), nil, 0, api.ErrName},
		{named("", "a", "b", "a", ""), nil, 2, api.ErrTwice},
		{named("", "a", "", "a"), nil, 1, api.ErrName},
		{named("", "a", "A"), nil, 0, api.OK},
		{named("", "a", "a"), []string{"1"}, 1, api.ErrTwice},
		{named("@", "a", "b"), []string{"A", "1"}, 0, api.ErrName},
		{named("@", "a", "b"), []string{"A", ""}, 0, api.ErrName},
		{named("@", "a", "b"), []string{"defined"}, 0, api.ErrName},
		{named("@", "a", "b"), []string{long}, 0, api.ErrName},
		{named("@", "a", "b"), []string{"A", "B", "A", "1"}, 0, api.ErrTwice},
		{named("@", "a", "b"), []string{"A", "1", "A"}, 0, api.ErrName},
		{named("@", "a", "b"), []string{"a.b"}, 0, api.ErrName},
		{named("x", "a", "b"), []string{"a", "b", "_", long[:32]}, 0, api.OK},
	}
	for _, x := range cases {
		if k, line, e := source.Check(x.files, x.names); k != x.file || line != 0 || e != x.e {
			t.Errorf("Check(%.80q, %q): %d, %d, %v, want %d, %v", x.files, x.names, k, line, e, x.file, x.e)
		}
	}
}

func TestCheckSizes(t *testing.T) {
	blank := func(n int) string { return strings.Repeat(" ", n) }
	for text, want := range map[string]api.Errno{
		blank(65536):                     api.OK,
		blank(65537):                     api.ErrLimit,
		"@" + blank(65536):               api.ErrLimit,
		strings.Repeat("\n", 2000):       api.OK,
		strings.Repeat("\n", 2000) + "x": api.ErrLimit,
		strings.Repeat("\n", 1999) + "x": api.OK,
		"@" + strings.Repeat("\n", 2001): api.ErrLimit,
	} {
		files := []api.File{{Name: "a", Text: "x"}, {Name: "b", Text: text}, {Name: "c", Text: "@"}}
		wantFile, wantLine, wantError := 1, 0, want
		if want == api.OK {
			wantFile, wantLine, wantError = 2, 1, api.ErrForm
		}
		if k, line, e := source.Check(files, nil); k != wantFile || line != wantLine || e != wantError {
			t.Errorf("Check of %d bytes: %d, %d, %v, want %v", len(text), k, line, e, want)
		}
	}
}

func TestCheckCycles(t *testing.T) {
	include := func(names ...string) string {
		text := "x\n"
		for _, s := range names {
			text += "#include \"" + s + "\"\n"
		}
		return text
	}
	cases := []struct {
		texts      []string // of the files a, b, c, d
		file, line int
		e          api.Errno
	}{
		{[]string{include("a")}, 0, 2, api.ErrCycle},
		{[]string{include("b", "b", "a"), ""}, 0, 4, api.ErrCycle},
		{[]string{include("b", "c", "d"), include("c", "d"), include("d"), "x"}, 0, 0, api.OK},
		{[]string{include("d", "b"), include("c"), include("a"), "x"}, 0, 3, api.ErrCycle},
		{[]string{include("b"), include("d", "c"), include("b"), "x"}, 1, 3, api.ErrCycle},
		{[]string{"x", include("d"), include("b"), include("d", "c")}, 1, 2, api.ErrCycle},
		{[]string{"x", "x", "x", include("c", "d")}, 3, 3, api.ErrCycle},
		{[]string{"#if 0\n" + include("a") + "#endif"}, 0, 3, api.ErrCycle},
		{[]string{include("a"), "@"}, 1, 1, api.ErrForm},
	}
	for _, x := range cases {
		files := named("", "a", "b", "c", "d")[:len(x.texts)]
		for k := range files {
			files[k].Text = x.texts[k]
		}
		if k, line, e := source.Check(files, nil); k != x.file || line != x.line || e != x.e {
			t.Errorf("Check of %q: %d, %d, %v, want %d, %d, %v", files, k, line, e, x.file, x.line, x.e)
		}
	}
}

func TestCheckTotal(t *testing.T) {
	twice := func(name string) string { return strings.Repeat("#include \""+name+"\"\n", 2) }
	// 2 + 2 * (2 + 2 * (2 + 2 * n)) is 14 + 8 * n.
	files := func(first string, n int) []api.File {
		return []api.File{
			{Name: "a", Text: first + twice("b")}, {Name: "b", Text: twice("c")}, {Name: "c", Text: twice("d")},
			{Name: "d", Text: strings.Repeat("\n", n)},
		}
	}
	for _, x := range []struct {
		first string
		n     int
		e     api.Errno
	}{
		{"x\nx\n", 1022, api.OK}, {"x\nx\nx\n", 1022, api.ErrLimit}, {"#if 0\n#endif\n", 1022, api.OK},
		{"", 1023, api.ErrLimit}, {"", 2000, api.ErrLimit},
	} {
		if k, line, e := source.Check(files(x.first, x.n), nil); k != 0 || line != 0 || e != x.e {
			t.Errorf("Check with %d lines: %d, %d, %v, want %v", x.n, k, line, e, x.e)
		}
	}
	guarded := files("", 2000)
	guarded[0].Text = "#if 0\n" + guarded[0].Text + "#endif\n"
	if _, _, e := source.Check(guarded, nil); e != api.ErrLimit {
		t.Errorf("includes that are not active: %v", e)
	}
	apart := files("", 2000)
	apart[0].Text = "x"
	if _, _, e := source.Check(apart, nil); e != api.OK {
		t.Errorf("files that are not included: %v", e)
	}
	// So many lines that they could not be counted one by one.
	var tower []api.File
	for k, name := range manyNames(16) {
		tower = append(tower, api.File{Name: name, Text: strings.Repeat("#include \"n"+strconv.Itoa(k+1)+"\"\n", 1900)})
	}
	tower[15].Text = "x"
	if k, line, e := source.Check(tower, nil); k != 0 || line != 0 || e != api.ErrLimit {
		t.Errorf("a tower of includes: %d, %d, %v", k, line, e)
	}
}

// All calls that take files have the error of Check, and then nothing else.
func TestErrorsOfCheck(t *testing.T) {
	all := diagram.True()
	for _, x := range []struct {
		files []api.File
		names []string
		want  api.Errno
	}{
		{nil, nil, api.ErrArg},
		{file("x"), manyNames(25), api.ErrLimit},
		{file("x"), []string{"defined"}, api.ErrName},
		{file("x"), []string{"A", "A"}, api.ErrTwice},
		{file("@"), nil, api.ErrForm},
		{file("#endif"), nil, api.ErrState},
		{file("#include \"main\""), nil, api.ErrCycle},
	} {
		if l, e := source.Plain(x.files, x.names, 0); e != x.want || len(l.Tokens) != 0 || len(l.Diags) != 0 {
			t.Errorf("Plain of %q: %v, %v, want %v", x.files, l, e, x.want)
		}
		if l, e := source.Family(x.files, x.names, all); e != x.want || len(l.Tokens) != 0 || len(l.Diags) != 0 {
			t.Errorf("Family of %q: %v, %v, want %v", x.files, l, e, x.want)
		}
		if l, e := source.Active(x.files, x.names, all); e != x.want || len(l) != 0 {
			t.Errorf("Active of %q: %v, %v, want %v", x.files, l, e, x.want)
		}
		if l, e := source.Macros(x.files, x.names, all); e != x.want || len(l) != 0 {
			t.Errorf("Macros of %q: %v, %v, want %v", x.files, l, e, x.want)
		}
		if m, e := source.Mentions(x.files, x.names); e != x.want || m != 0 {
			t.Errorf("Mentions of %q: %v, %v, want %v", x.files, m, e, x.want)
		}
		if l, e := source.Value(x.files, x.names, all, "@"); e != x.want || len(l) != 0 {
			t.Errorf("Value of %q: %v, %v, want %v", x.files, l, e, x.want)
		}
	}
}
