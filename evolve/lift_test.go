package evolve_test

import (
	"slices"
	"strconv"
	"strings"
	"testing"

	"motley/api"
	"motley/diagram"
	"motley/evolve"
	"motley/source"
)

// lift lifts into files where it is possible.
func lift(t testing.TB, files []api.File, d diagram.D, c uint32, e string) []api.File {
	t.Helper()
	l, err := evolve.Lift(files, features, d, c, e)
	if err != api.OK || len(l) != len(files) {
		t.Fatalf("Lift of %q into %q: %v", e, files, err)
	}
	return l
}

// refused is the error with which nothing is lifted.
func refused(t testing.TB, files []api.File, names []string, d diagram.D, c uint32, e string, want api.Errno) {
	t.Helper()
	if l, err := evolve.Lift(files, names, d, c, e); err != want || len(l) != 0 {
		t.Errorf("Lift of %.100q: %v, %v, want %v", e, l, err, want)
	}
}

// P10.8

// In the texts of this table, ; stands for a line feed.
func TestLift(t *testing.T) {
	for _, x := range []struct{ what, text, edited, want string }{
		{"nothing", "a;b", "a;b", "a;b"},
		{"only blanks and comments", "a+b // x;;c", ";a   +b;;// no;\tc", "a+b // x;;c"},
		{"a line first", "a;b", "x;a;b", "#if G;x;#endif;a;b;"},
		{"a line in the middle", "a;b;", "a;x;b", "a;#if G;x;#endif;b;"},
		{"a line last", "a;b", "a;b;x", "a;b;#if G;x;#endif;"},
		{"lines", "a;b;", "a; x+  1 //;;y;b", "a;#if G;x + 1;y;#endif;b;"},
		{"into nothing", "", "x", "#if G;x;#endif;"},
		{"into empty lines", ";;", "x", "#if G;x;#endif;;;"},
		{"the first line", "a;b;c", "b;c", "#if !(G);a;#endif;b;c;"},
		{"the last line", "a;b;c", "a;b", "a;b;#if !(G);c;#endif;"},
		{"all lines", "a; b // b;;c;", "", "#if !(G);a;#endif;#if !(G); b // b;#endif;;#if !(G);c;#endif;"},
		{"another line", "a;b;c", "a;x;c", "a;#if G;x;#endif;#if !(G);b;#endif;c;"},
		{"another line behind others", "a;;//;b;c", "a;x;c", "a;#if G;x;#endif;;//;#if !(G);b;#endif;c;"},
		{"another first line", "//;a;b", "x;b", "#if G;x;#endif;//;#if !(G);a;#endif;b;"},
		{"all other lines", "a;b", "x;y;z", "#if G;x;y;z;#endif;#if !(G);a;#endif;#if !(G);b;#endif;"},
		{"one of equal lines", "a;a;a", "a;a", "a;a;#if !(G);a;#endif;"},
		{"one more of equal lines", "a;b", "a;a;b", "a;#if G;a;#endif;b;"},
		{"more at both ends", "a;b;a", "a;b;a;b;a", "a;b;a;#if G;b;a;#endif;"},
		{"a line in two", "a b;c", "a;b;c", "#if G;a;b;#endif;#if !(G);a b;#endif;c;"},
		{"other texts", "a<=b", "a< =b", "#if G;a < = b;#endif;#if !(G);a<=b;#endif;"},
		{"two changes", "a;b;c;d", "x;b;c;y", "#if G;x;b;c;y;#endif;#if !(G);a;#endif;#if !(G);b;#endif;#if !(G);c;#endif;#if !(G);d;#endif;"},
		{"a macro", "#define M x y;M;b", "x z;b", "#if G;x z;#endif;#define M x y;#if !(G);M;#endif;b;"},
		{"behind a macro", "#define M x y;M;b", "x y;z;b", "#define M x y;M;#if G;z;#endif;b;"},
		{"in a conditional", "#ifdef A;a;b;#endif;c", "a;x;c", "#ifdef A;a;#if G;x;#endif;#if !(G);b;#endif;#endif;c;"},
		{"behind a conditional", "#ifdef A;a;#endif;#ifdef B;y;#endif;c", "a;x;c", "#ifdef A;a;#if G;x;#endif;#endif;#ifdef B;y;#endif;c;"},
		{"before a conditional", "#ifdef A;a;#endif", "x;a", "#if G;x;#endif;#ifdef A;a;#endif;"},
		{"what another configuration has", "#ifndef A;a;#else;b;#endif", "a", "#if G;a;#endif;#ifndef A;a;#else;#if !(G);b;#endif;#endif;"},
	} {
		for guard, d := range map[string]diagram.D{"defined(A)": has(0), "1": all, "defined(A) && (!defined(C))": diagram.Cube(1, 4)} {
			text := strings.ReplaceAll(x.text, ";", "\n")
			want := strings.ReplaceAll(strings.ReplaceAll(x.want, ";", "\n"), "G", guard)
			l := lift(t, main(text), d, 1, strings.ReplaceAll(x.edited, ";", "\n"))
			if l[0].Name != "main" || l[0].Text != want {
				t.Errorf("%s: %q, want %q", x.what, l[0].Text, want)
			}
		}
	}
}

// included has a main file that includes another one in its middle.
func included() []api.File {
	return []api.File{{Name: "main", Text: "a\n#include \"more\"\nb"}, {Name: "more", Text: "x\ny"}, {Name: "none", Text: "\na"}}
}

func TestLiftIncluded(t *testing.T) {
	for edited, want := range map[string]string{
		"a\nz\nx\ny\nb":     "a\n#if defined(A)\nz\n#endif\n#include \"more\"\nb\n",
		"z\na\nx\ny\nb":     "#if defined(A)\nz\n#endif\na\n#include \"more\"\nb\n",
		"x\ny\nb":           "#if !(defined(A))\na\n#endif\n#include \"more\"\nb\n",
		"a\nx\ny":           "a\n#include \"more\"\n#if !(defined(A))\nb\n#endif\n",
		"a\nx\ny\nb\nz":     "a\n#include \"more\"\nb\n#if defined(A)\nz\n#endif\n",
		"z\n\nz\nx\ny\nb\n": "#if defined(A)\nz\nz\n#endif\n#if !(defined(A))\na\n#endif\n#include \"more\"\nb\n",
		"a\nx\ny\nb":        included()[0].Text,
	} {
		l := lift(t, included(), has(0), 1, edited)
		if l[0].Text != want || !slices.Equal(l[1:], included()[1:]) {
			t.Errorf("Lift of %q: %q", edited, l)
		}
	}
	// Here a line of the other file is removed, or stands before those that are inserted.
	for _, edited := range []string{"a\ny\nb", "a\nx\nb", "a\nx\nz\ny\nb", "a\nx\ny\nz\nb", "a\nx\ny\nz", "a", "b", ""} {
		refused(t, included(), features, has(0), 1, edited, api.ErrState)
	}
	// If it comes first, lines are inserted before it.
	first := []api.File{{Name: "main", Text: "#include \"more\""}, {Name: "more", Text: "x"}}
	if l := lift(t, first, all, 0, "z\nx"); l[0].Text != "#if 1\nz\n#endif\n#include \"more\"\n" || l[1] != first[1] {
		t.Errorf("Lift before an included file: %q", l)
	}
	refused(t, first, features, all, 0, "x\nz", api.ErrState)
	refused(t, first, features, all, 0, "z", api.ErrState)
}

// A file that is included twice has one line with twice the tokens, where nothing stands between.
func TestLiftNeighbours(t *testing.T) {
	files := []api.File{{Name: "main", Text: "#include \"more\"\n#include \"more\"\nb"}, {Name: "more", Text: "x"}}
	if l := lift(t, files, all, 0, "x x"); l[0].Text != "#include \"more\"\n#include \"more\"\n#if !(1)\nb\n#endif\n" {
		t.Errorf("Lift: %q", l)
	}
	refused(t, files, features, all, 0, "x\nx\nb", api.ErrState)
}

func TestErrorsOfLift(t *testing.T) {
	files, a := included(), has(0)
	for want, bad := range badFiles() {
		refused(t, bad, features, none, 0, "@", want)
	}
	for want, l := range badNames() {
		for _, names := range l {
			refused(t, files, names, none, 0, "@", want)
		}
	}
	refused(t, files, []string{"defined"}, all, 0, "a", api.ErrName)
	refused(t, files, features, none, 0, "@", api.ErrArg)
	refused(t, files, features, a, 6, "@", api.ErrArg)
	refused(t, files, features, a, 1<<24, "@", api.ErrArg)
	// The features behind the names do not count, neither in c nor as what a condition may depend on.
	refused(t, files, features, has(3), 8, "@", api.ErrArg)
	refused(t, files, features, has(3).Not(), 8, "@", api.ErrArg)
	refused(t, files, nil, a.Not(), 0, "@", api.ErrArg)
	// Of the text it is the first line with an error that counts.
	long := strings.Repeat("a ", 257)
	for text, want := range map[string]api.Errno{
		"@": api.ErrForm, "a\nb\n01": api.ErrForm, "#if 1": api.ErrForm, "a\r\n": api.ErrForm, long: api.ErrLimit,
		long + "\n@": api.ErrLimit, "@\n" + long: api.ErrForm, long + "@": api.ErrForm,
	} {
		refused(t, files, features, a, 1, text, want)
	}
	if l := lift(t, main("a"), all, 0, long[2:]); !strings.HasPrefix(l[0].Text, "#if 1\na a ") {
		t.Errorf("Lift of a line with 256 tokens: %q", l)
	}
}

// Bits from the number of names on do not count.
func TestLiftConfiguration(t *testing.T) {
	files := main("#ifdef A\na\n#endif\nb")
	for c, want := range map[uint32]string{
		1 | 1<<3: "#ifdef A\na\n#endif\n#if !(1)\nb\n#endif\n", 1 | 1<<24: "#ifdef A\na\n#endif\n#if !(1)\nb\n#endif\n",
	} {
		if l := lift(t, files, all, c, "a"); l[0].Text != want {
			t.Errorf("Lift for %b: %q", c, l)
		}
	}
}

// What is lifted may be too large.
func TestLiftLimits(t *testing.T) {
	nested := func(n int) string {
		return strings.Repeat("#ifndef C\n", n) + "a\n" + strings.Repeat("#endif\n", n)
	}
	lift(t, main(nested(31)), all, 0, "")
	lift(t, main(nested(31)), all, 0, "b")
	refused(t, main(nested(32)), features, all, 0, "", api.ErrLimit)
	refused(t, main(nested(32)), features, all, 0, "a\nb", api.ErrLimit)
	lift(t, main(nested(32)), all, 0, "b\na") // before all of them

	lines := func(n int) string { return strings.Repeat("\n", n) }
	lift(t, main(lines(1997)), all, 0, "x")
	refused(t, main(lines(1998)), features, all, 0, "x", api.ErrLimit)
	lift(t, main(lines(1997)+"a"), all, 0, "")
	refused(t, main(lines(1998)+"a"), features, all, 0, "", api.ErrLimit)

	blanks := func(n int) string { return strings.Repeat(" ", n-1) + "\n" }
	lift(t, main(blanks(65536-len("#if 1\nx\n#endif\n"))), all, 0, "x")
	refused(t, main(blanks(65537-len("#if 1\nx\n#endif\n"))), features, all, 0, "x", api.ErrLimit)

	many := append(main(strings.Repeat("#include \"more\"\n", 4)), api.File{Name: "more", Text: lines(2000)})
	lift(t, many, all, 0, strings.Repeat("x\n", 186))
	refused(t, many, features, all, 0, strings.Repeat("x\n", 187), api.ErrLimit)
}

// What leaves the main file is told before what is too large.
func TestLiftErrorOrder(t *testing.T) {
	files := included()
	files[0].Text = strings.Repeat("#ifndef C\n", 32) + files[0].Text + "\n" + strings.Repeat("#endif\n", 32)
	refused(t, files, features, all, 0, "a\nx\ny\nz", api.ErrState)
	refused(t, files, features, all, 0, "x\nb", api.ErrState)
	refused(t, files, features, all, 0, "", api.ErrState)
	refused(t, files, features, all, 0, "a\nx\ny", api.ErrLimit)
	refused(t, files, features, all, 0, "a\nA\nx\ny\nb", api.ErrLimit)
}

// What is inserted is no longer what it was if it is a macro at its place, or if a macro takes it along.
func TestLiftMacros(t *testing.T) {
	for _, x := range []struct{ text, edited string }{
		{"a", "A"},
		{"a", "a\nA"},
		{"#define M m\na", "a\nM"},
		{"#define F(x) x\na", "a\nF(b)"},
		{"#define A_ b\na", "a\nA_"},
		{"#define M N\n#define N n\na", "a\nM"},
	} {
		refused(t, main(x.text), features, all, 1, x.edited, api.ErrState)
	}
	for _, x := range []struct{ text, edited string }{
		{"a", "B"},
		{"#define M m\na", "M\na"},
		{"#define F(x) x\na", "a\nF"},
		{"#define M M\na", "a\nM"},
		{"a\n#define M m", "a\nM"},
		{"#define M m\na\n#undef M\nb", "a\nb\nM"},
		{"#ifdef B\n#define M m\n#endif\na", "a\nM"},
	} {
		files := lift(t, main(x.text), all, 1, x.edited)
		if p, e := source.Plain(files, features, 1); e != api.OK || source.Text(p) != x.edited+"\n" {
			t.Errorf("Lift of %q into %q: %q", x.edited, x.text, files)
		}
	}
	refused(t, main("#define M m\na\nb"), features, all, 1, "a\nM\nb", api.ErrState)
	// For others it may be a macro: that does not matter.
	lift(t, main("#ifdef B\n#define M m\n#endif\na"), all, 1, "a\nM")
	lift(t, main("#define M m\nM\nM"), all, 1, "m")
}

// R4: files and results share no memory.
func TestLiftIsNew(t *testing.T) {
	for _, edited := range []string{"a\nx\ny\nb", "a\nz\nx\ny\nb"} {
		files := included()
		l := lift(t, files, all, 0, edited)
		l[0].Text, l[1].Name = "", "x"
		if !slices.Equal(files, included()) {
			t.Error("Lift changes its argument")
		}
	}
	files := included()
	l, _ := evolve.Trim(files, nil, none)
	l[0].Text, l[1].Name = "", "x"
	if !slices.Equal(files, included()) {
		t.Error("Trim changes its argument")
	}
}

// lineMaker makes files line by line.
type lineMaker struct {
	*dice
	lines []string
	depth int
}

func (m *lineMaker) words() string {
	var l []string
	for range 1 + m.roll(3) {
		l = append(l, pick(m.dice, "a", "b", "c", "d", "e", ";", "M", "N", "F(a)", "F(M , 1)", "F", "(", ")", "A", "B", "17"))
	}
	return strings.Join(l, pick(m.dice, " ", "  ", "\t"))
}

func (m *lineMaker) line() string {
	return pick(m.dice, "", " ", "\t") + m.words() + pick(m.dice, "", "", " ", " // "+m.words())
}

func (m *lineMaker) block(isMain bool) {
	put := func(l ...string) { m.lines = append(m.lines, l...) }
	for range 1 + m.roll(4) {
		switch k := m.roll(14); {
		case k < 3 && m.depth < 3:
			m.depth++
			put(pick(m.dice, "#ifdef ", "#ifndef ", "#if defined(B) || ", "#if !") + pick(m.dice, "A", "B", "C", "M"))
			m.block(isMain)
			if m.roll(2) == 0 {
				put(pick(m.dice, "#else", "#elif C"))
				m.block(isMain)
			}
			put("#endif")
			m.depth--
		case k == 3:
			put("#define " + pick(m.dice, "M", "N", "F(x)", "F(x, y)") + " " + pick(m.dice, "x", "x x y", "N", "m", ""))
		case k == 4:
			put("#undef " + pick(m.dice, "M", "N", "F"))
		case k == 5 && isMain:
			put("#include \"more\"")
		case k == 6:
			put(pick(m.dice, "", "  ", "// "+m.words()))
		case k == 7:
			put("#error")
		default:
			put(m.line())
		}
	}
}

func (d *dice) text(isMain bool) string {
	m := &lineMaker{dice: d}
	m.block(isMain)
	m.block(isMain)
	return strings.Join(m.lines, "\n") + pick(d, "", "\n")
}

func (d *dice) files() []api.File {
	return []api.File{{Name: "main", Text: d.text(true)}, {Name: "more", Text: d.text(false)}}
}

// edited is the text of a product with some changes.
func (d *dice) edited(text string) string {
	lines := strings.Split(text, "\n")
	for range d.roll(4) {
		k := d.roll(len(lines))
		word := pick(d, "a", "z", "u + v", "1 // one", "", "M", "B")
		switch d.roll(4) {
		case 0:
			lines = slices.Insert(lines, k, word)
		case 1:
			lines = slices.Delete(lines, k, k+1)
		case 2:
			lines[k] = word
		default:
			lines[k] += " " + word
		}
		if len(lines) == 0 {
			break
		}
	}
	return strings.Join(lines, "\n")
}

// productLine is a line of a product, or of a text.
type productLine struct {
	file, line int
	texts      []string
}

func linesOf(l []source.Token) []productLine {
	var out []productLine
	for _, x := range l {
		last := len(out) - 1
		if last < 0 || out[last].file != x.File || out[last].line != x.Line {
			out = append(out, productLine{x.File, x.Line, nil})
			last++
		}
		out[last].texts = append(out[last].texts, x.Text)
	}
	return out
}

// wantedLift is what the chapter says, for arguments that have no error before that of a line of the text.
func wantedLift(files []api.File, names []string, d diagram.D, c uint32, text string) ([]api.File, api.Errno) {
	list, _ := source.Plain(files, names, c)
	was := linesOf(list.Tokens)
	var is []productLine
	var tokens source.List
	for k, line := range strings.Split(text, "\n") {
		l, e := source.Lex(line)
		if e != api.OK {
			return nil, e
		}
		tokens.Tokens = append(tokens.Tokens, l...)
		for i := range l {
			l[i].Line = k
		}
		is = append(is, linesOf(l)...)
	}
	removed, inserted, before := slices.Clone(was), slices.Clone(is), productLine{}
	for len(removed) > 0 && len(inserted) > 0 && slices.Equal(removed[0].texts, inserted[0].texts) {
		before, removed, inserted = removed[0], removed[1:], inserted[1:]
	}
	for len(removed) > 0 && len(inserted) > 0 {
		k, i := len(removed)-1, len(inserted)-1
		if !slices.Equal(removed[k].texts, inserted[i].texts) {
			break
		}
		removed, inserted = removed[:k], inserted[:i]
	}
	if len(removed)+len(inserted) == 0 {
		return files, api.OK
	}
	// around has, for each line of the main file, what stands before and behind it.
	around := map[int]*[2]string{}
	at := func(line int) *[2]string {
		if around[line] == nil {
			around[line] = &[2]string{}
		}
		return around[line]
	}
	guard := wantedGuard(d, names)
	for _, line := range removed {
		if line.file > 0 {
			return nil, api.ErrState
		}
		*at(line.line) = [2]string{"#if !(" + guard + ")\n", "#endif\n"}
	}
	if len(inserted) > 0 {
		if before.file > 0 {
			return nil, api.ErrState
		}
		block := "#if " + guard + "\n"
		for _, line := range inserted {
			block += strings.Join(line.texts, " ") + "\n"
		}
		at(before.line)[1] += block + "#endif\n"
	}
	out := at(0)[1]
	for k, line := range strings.SplitAfter(files[0].Text, "\n") {
		if line != "" {
			out += at(k + 1)[0] + strings.TrimSuffix(line, "\n") + "\n" + at(k + 1)[1]
		}
	}
	lifted := []api.File{{Name: "main", Text: out}, files[1]}
	list, e := source.Plain(lifted, names, c)
	switch {
	case e != api.OK:
		return nil, api.ErrLimit
	case !sameTokens(list, tokens):
		return nil, api.ErrState
	}
	return lifted, api.OK
}

func TestLiftOfFiles(t *testing.T) {
	d := newDice()
	results, changed := map[api.Errno]int{}, 0
	for range 1500 {
		files, c := d.files(), uint32(d.roll(1<<len(features)))
		if _, _, e := source.Check(files, features); e != api.OK {
			t.Fatalf("Check of %q: %v", files, e)
		}
		text, _ := evolve.Derive(files, features, c)
		text = d.edited(text)
		cond := pick(d, all, d.someSet(len(features)), d.someSet(len(features))).Or(diagram.Cube(c, ^c&7))
		got, e := evolve.Lift(files, features, cond, c|1<<uint(3+d.roll(29)), text)
		want, err := wantedLift(files, features, cond, c, text)
		if e != err || !slices.Equal(got, want) {
			t.Fatalf("Lift of\n%s\n\nfor %b into\n%s\n: %v\n%s\n\nwant %v\n%s", text, c, files, e, got, err, want)
		}
		results[e]++
		if e != api.OK {
			continue
		}
		if got[0] != files[0] {
			changed++
		}
		putAndGet(t, files, got, cond, c, text)
	}
	if results[api.OK] < 500 || results[api.ErrState] < 100 || changed < 400 {
		t.Errorf("the edits are too simple: %v, %d", results, changed)
	}
}

// P10.15, P10.16
func putAndGet(t *testing.T, files, lifted []api.File, d diagram.D, c uint32, text string) {
	t.Helper()
	derived, e := evolve.Derive(lifted, features, c)
	if e != api.OK || !slices.Equal(strings.Fields(spaced(t, derived)), strings.Fields(spaced(t, text))) {
		t.Fatalf("the product of %s\nis %q (%v), not %q", lifted[0].Text, derived, e, text)
	}
	before, _ := source.Family(files, features, all)
	after, _ := source.Family(lifted, features, all)
	if differ := source.Differ(before, after, d.Not()); !differ.Empty() {
		t.Fatalf("others differ\n%s\n\n%s", files[0].Text, lifted[0].Text)
	}
}

// spaced has all tokens of a text, with blanks between them.
func spaced(t *testing.T, text string) string {
	var out strings.Builder
	for _, line := range strings.Split(text, "\n") {
		l, e := source.Lex(line)
		if e != api.OK {
			t.Fatalf("Lex of %q: %v", line, e)
		}
		for _, x := range l {
			out.WriteString(strconv.Itoa(int(x.Kind)) + x.Text + " ")
		}
	}
	return out.String()
}

// P10.17

func TestGetAndPut(t *testing.T) {
	d := newDice()
	for range 300 {
		files := d.files()
		for c := range uint32(1) << len(features) {
			text, _ := evolve.Derive(files, features, c)
			if l := lift(t, files, diagram.Cube(c, 0), c, text); !slices.Equal(l, files) {
				t.Fatalf("the product itself changes\n%s\ninto\n%s", files, l)
			}
		}
	}
}

// A line with too many tokens is the only one that does not come back.
func TestGetAndPutLong(t *testing.T) {
	for n, same := range map[int]bool{255: true, 256: true, 257: false} {
		files := main("#define X " + strings.TrimSpace(strings.Repeat("x ", 200)) + "\nX " + strings.Repeat("y ", n-200))
		text, _ := evolve.Derive(files, features, 0)
		if l := lift(t, files, all, 0, text); slices.Equal(l, files) != same {
			t.Errorf("a line with %d tokens: %q", n, l)
		}
	}
}
