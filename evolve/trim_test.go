package evolve_test

import (
	"slices"
	"strings"
	"testing"

	"motley/api"
	"motley/diagram"
	"motley/evolve"
	"motley/source"
)

// P10.9

func TestTrim(t *testing.T) {
	a := has(0)
	for _, x := range []struct {
		text, want string
		within     diagram.D
	}{
		{"#ifdef A\nx;\n#endif\ny;", "#ifdef A\n\n#endif\ny;", a.Not()},
		{"#ifdef A\nx;\n#endif\ny;", "#ifdef A\nx;\n#endif\ny;", a},
		{"#ifdef A\nx;\n#endif\ny;\n", "#ifdef A\nx;\n#endif\ny;\n", all},
		{"x\n\n // z\n #define M m\ny", "\n\n\n #define M m\n", none},
		{"x\n", "\n", none},
		{"x", "", none},
		{"", "", none},
		{"\n\n", "\n\n", none},
		{"#ifdef A\n  // x\n\t\n#define x y\n\t# error // no\nx\n#elif B\n z\n#else\ny\n# endif // A", "#ifdef A\n\n\n#define x y\n\t# error // no\n\n#elif B\n\n#else\ny\n# endif // A", diagram.Cube(0, 3)},
		{"#ifdef A\n#ifdef B\nx\n#endif\ny\n#endif", "#ifdef A\n#ifdef B\n\n#endif\ny\n#endif", diagram.Cube(1, 2).Or(diagram.Cube(2, 1))},
		{"#define M A\n#if M\nx\n#else\ny\n#endif\nM ", "#define M A\n#if M\nx\n#else\n\n#endif\nM ", a},
		{"#if 0\nx\n#endif\n#ifdef D\ny\n#endif", "#if 0\n\n#endif\n#ifdef D\n\n#endif", all},
	} {
		l, e := evolve.Trim(main(x.text), features, x.within)
		if e != api.OK || len(l) != 1 || l[0].Name != "main" || l[0].Text != x.want {
			t.Errorf("Trim of %q: %q, %v, want %q", x.text, l, e, x.want)
		}
	}
}

// Lines of other files are active if they are so at least once; a file that is not processed has no such line.
func TestTrimIncluded(t *testing.T) {
	files := []api.File{
		{Name: "main", Text: "#include \"more\"\n#define M\n#ifdef A\n#include \"more\"\n#endif"},
		{Name: "more", Text: "x\n#ifdef M\ny\n#else\nz\n#endif\n"},
		{Name: "none", Text: "x\n#define N\n\ny"},
	}
	for want, within := range map[string]diagram.D{
		"x\n#ifdef M\n\n#else\nz\n#endif\n":  has(0).Not(),
		"x\n#ifdef M\ny\n#else\nz\n#endif\n": has(0),
		"\n#ifdef M\n\n#else\n\n#endif\n":    none,
	} {
		l, e := evolve.Trim(files, features, within)
		if e != api.OK || len(l) != 3 || l[0] != files[0] || l[1].Text != want || l[2].Text != "\n#define N\n\n" || l[2].Name != "none" {
			t.Errorf("Trim: %q, %v", l, e)
		}
	}
}

func TestTrimErrors(t *testing.T) {
	for want, files := range badFiles() {
		if l, e := evolve.Trim(files, features, all); e != want || len(l) != 0 {
			t.Errorf("Trim: %q, %v, want %v", l, e, want)
		}
	}
	for want, l := range badNames() {
		for _, names := range l {
			if l, e := evolve.Trim(main("x"), names, all); e != want || len(l) != 0 {
				t.Errorf("Trim: %q, %v, want %v", l, e, want)
			}
		}
	}
}

// trimmedLine is a line as it is when it is trimmed, if one knows whether it is active somewhere.
func trimmedLine(line string, active bool) string {
	feed := ""
	if strings.HasSuffix(line, "\n") {
		feed = "\n"
	}
	if active || strings.HasPrefix(strings.TrimSpace(line), "#") {
		return line
	}
	return feed
}

// activeLines are the lines, by their files, that some configuration in within has.
func activeLines(files []api.File, within diagram.D) map[[2]int]bool {
	lines := map[[2]int]bool{}
	for c := range within.All(len(features)) {
		active, _ := source.Active(files, features, diagram.Cube(c, ^c))
		for k, l := range active {
			for i, d := range l {
				if !d.Empty() {
					lines[[2]int{k, i}] = true
				}
			}
		}
	}
	return lines
}

func TestTrimOfFiles(t *testing.T) {
	d := newDice()
	trimmed := 0
	for range 400 {
		files := d.files()
		within := pick(d, d.someSet(3), d.someSet(3), diagram.Cube(uint32(d.roll(8)), 0), none)
		got, e := evolve.Trim(files, features, within)
		active := activeLines(files, within)
		want := slices.Clone(files)
		for k := range want {
			want[k].Text = ""
			for i, line := range strings.SplitAfter(files[k].Text, "\n") {
				want[k].Text += trimmedLine(line, active[[2]int{k, i}])
			}
		}
		if e != api.OK || !slices.Equal(got, want) {
			t.Fatalf("Trim of\n%s\n: %v\n%s\nwant\n%s", files, e, got, want)
		}
		if !slices.Equal(got, files) {
			trimmed++
		}
		// P10.18
		before, _ := source.Family(files, features, within)
		after, e := source.Family(got, features, within)
		if e != api.OK || !source.Same(before, after) {
			t.Fatalf("the family list changes (%v)\n%s\n\n%s", e, files, got)
		}
	}
	if trimmed < 200 {
		t.Errorf("only %d files are trimmed", trimmed)
	}
}
