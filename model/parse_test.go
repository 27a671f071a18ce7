package model_test

import (
	"slices"
	"strconv"
	"strings"
	"testing"

	"motley/api"
	"motley/model"
)

// P3.2

func TestParse(t *testing.T) {
	want := api.Model{
		Features: []api.Feature{feature("Phone", -1, api.Root), feature("Screen", 0, api.Mandatory), feature("Gps", 0, api.Optional), feature("Basic", 1, api.Member), feature("Colour", 1, api.Member)},
		Groups:   []api.Group{{Parent: 1, Low: 1, High: 1, Members: []int{3, 4}}},
		Attributes: []api.Attribute{
			{Name: "price", Values: []int64{0, 0, 7, 0, 20}},
		},
		Requires: []api.Expr{node(api.OpImplies, name("Gps"), name("Colour"))},
		Limits:   []api.Limit{{Attribute: 0, Rel: api.AtMost, Bound: 30}},
	}
	for what, text := range map[string]string{
		"as printed":             phone,
		"without last line feed": strings.TrimSuffix(phone, "\n"),
		"with blanks":            "  " + strings.NewReplacer(" ", "   ", "\n", "  \n   ").Replace(phone),
		"with ignored lines":     "#\n\n" + strings.ReplaceAll(phone, "\n", "\n   \n  # root x\n#root\n") + "   ",
	} {
		if m := parsed(t, text); !model.Same(m, want) || model.Check(m) != api.OK {
			t.Errorf("%s: %v", what, m)
		}
	}
}

// Lines may stand in any order, as long as what they name is there.
func TestParseOrder(t *testing.T) {
	m := parsed(t, "attribute a\nlimit a >= -5\nrequire 1\nroot r\nvalue a r -3\nattribute r\nmember r x\ngroup r 0 1 x\nvalue r x 0\noptional x y\nlimit r = 9223372036854775807\nvalue r y 2147483648\nvalue a y -2147483648\nmember r z\ngroup r 1 1 z\nrequire y|x&!z")
	want := api.Model{
		Features:   []api.Feature{feature("r", -1, api.Root), feature("x", 0, api.Member), feature("y", 1, api.Optional), feature("z", 0, api.Member)},
		Groups:     []api.Group{{Parent: 0, Low: 0, High: 1, Members: []int{1}}, {Parent: 0, Low: 1, High: 1, Members: []int{3}}},
		Attributes: []api.Attribute{{Name: "a", Values: []int64{-3, 0, -api.MaxCost, 0}}, {Name: "r", Values: []int64{0, 0, api.MaxCost, 0}}},
		Requires: []api.Expr{
			node(api.OpTrue),
			node(api.OpOr, name("y"), node(api.OpAnd, name("x"), node(api.OpNot, name("z")))),
		},
		Limits: []api.Limit{{Attribute: 0, Rel: api.AtLeast, Bound: -5}, {Attribute: 1, Rel: api.Equal, Bound: 1<<63 - 1}},
	}
	if !model.Same(m, want) {
		t.Errorf("Parse: %v", m)
	}
}

// Words of lines are no words elsewhere.
func TestParseWordsAsNames(t *testing.T) {
	m := parsed(t, "root root\noptional root optional\nmember optional group\ngroup optional 0 1 group\nattribute value\nvalue value group 1\nrequire group => optional\nlimit value = 1")
	if l := model.Names(m); !slices.Equal(l, []string{"root", "optional", "group"}) {
		t.Errorf("Names: %v", l)
	}
}

// begun is three lines of which the others of the tests are the fourth one.
const begun = "root r\nmember r x\nattribute a\n"

// wrongLines are lines behind begun, with their errors.
func wrongLines() map[api.Errno][]string {
	long := strings.Repeat("n", 33)
	return map[api.Errno][]string{
		api.ErrForm: {
			"Root s", "feature r s", "ROOT", "root", "roots s", "\troot s", "root\ts", "\r", "x", "\x00", "ä", "é s", "-", "//",
			"root s t", "root s #", "mandatory", "mandatory r", "mandatory r s t", "optional r", "optional r s t", "member r", "member r s t",
			"group", "group r", "group r 0", "group r 0 1", "group r 0 1 ", "group r x 1 x", "group r 0 x x", "group r x",
			"group r 00 1 x", "group r 0 01 x", "group r +0 1 x", "group r 0 +1 x", "group r -0 1 x", "group r 0 1.0 x",
			"group r 9223372036854775808 1 x", "group r 0 9223372036854775808 x", "group r 0 -9223372036854775809 x", "group ? 0 1_0 ?",
			"attribute", "attribute b c", "value", "value a", "value a r", "value a r 1 2", "value a r x", "value a r 01", "value a r -0",
			"value a r +1", "value a r 0x1", "value a r 1e3", "value a r --1", "value a r -", "value a r 9223372036854775808",
			"value a r -9223372036854775809", "value a r １", "value ? ? ?",
			"require", "require ", "require r &", "require r x", "require 2", "require r & " + long, "require & #", "require r # x",
			"require\tr", "require(r)", "require!r", "require r\r", "require r\t", "require " + strings.Repeat("(", 100), "require r;",
			"require " + strings.Repeat("!", 64) + "r", "require r" + strings.Repeat(" | r", 999), "require r" + strings.Repeat(" ", 65536),
			"limit", "limit a", "limit a <=", "limit a <= 1 2", "limit a < 1", "limit a => 1", "limit a == 1", "limit a =< 1", "limit a 1 1",
			"limit a<= 1 1", "limit a <=1", "limit a <= x", "limit a = 01", "limit a >= -0", "limit a = 9223372036854775808", "limit ? = ?",
		},
		api.ErrState: {"root s", "root r", "root 1", "root " + long},
		api.ErrName: {
			"mandatory s t", "optional s r", "member ? t", "mandatory a t", "mandatory r 1", "optional r " + long, "member r a-b",
			"optional r s\r", "optional x ä", "optional R s",
			"group s 0 1 x", "group r 0 1 s", "group r 0 1 x s", "group r 9 -1 x a", "group a 0 1 x",
			"attribute 1", "attribute " + long, "attribute \x00", "value b r 1", "value a s 1", "value r r 1", "value a a 1",
			"value b r 9223372036854775807", "value a s 2147483649", "require s", "require a", "require r & s", "require 1 | X",
			"limit b <= 1", "limit r = 1", "limit A >= 1",
		},
		api.ErrTwice: {"mandatory r r", "optional r x", "member x r", "attribute a"},
		api.ErrArg: {
			"group r 0 1 r", "group x 0 1 x", "group r 0 1 x x", "group r -1 1 x", "group r 1 0 x", "group r 0 2 x",
			"group r 0 9223372036854775807 x", "group r -9223372036854775808 1 x",
			"value a r 2147483649", "value a x -2147483649", "value a r 9223372036854775807", "value a r -9223372036854775808",
		},
	}
}

func wantUnparsed(t *testing.T, text string, line int, want api.Errno) {
	t.Helper()
	m, at, e := model.Parse(text)
	if at != line || e != want {
		t.Errorf("Parse(..%.100q): line %d, %v, want line %d, %v", text[max(0, len(text)-100):], at, e, line, want)
	}
	if e != api.OK && !model.Same(m, api.Model{}) {
		t.Errorf("Parse(%.100q): %v with an error", text, m)
	}
}

func TestParseRefuses(t *testing.T) {
	for want, lines := range wrongLines() {
		for _, s := range lines {
			wantUnparsed(t, begun+s, 4, want)
			wantUnparsed(t, begun+s+"\n", 4, want)
			wantUnparsed(t, "\n # \n"+begun+"  "+s+"\nroot\n", 6, want)
		}
	}
}

// What is added by later lines is not there yet, and what is there cannot be added again.
func TestParseStates(t *testing.T) {
	for _, x := range []struct {
		text string
		line int
		want api.Errno
	}{
		{"optional a b\nroot a\n", 1, api.ErrState},
		{"mandatory a a", 1, api.ErrState},
		{"attribute p\nmember ? ?", 2, api.ErrState},
		{"root a\nroot b", 2, api.ErrState},
		{"mandatory a", 1, api.ErrForm},
		{"root 1\n", 1, api.ErrName},
		{"group a 0 1 b\nroot a", 1, api.ErrName},
		{"require a\nroot a", 1, api.ErrName},
		{"root a\noptional b c\noptional a b", 2, api.ErrName},
		{"root a\nmember a b\ngroup a 0 1 b c\nmember a c", 3, api.ErrName},
		{"root a\nvalue p a 1\nattribute p", 2, api.ErrName},
		{"root a\nattribute p\nvalue p b 1\noptional a b", 3, api.ErrName},
		{"limit p = 1\nattribute p\nroot a", 1, api.ErrName},
		{"root a\nattribute p\nvalue p a 0\nvalue p a 0", 4, api.ErrTwice},
		{"root a\nattribute p\nvalue p a 1\nvalue p a 2147483649", 4, api.ErrTwice},
		{"root a\nattribute p\nattribute q\nvalue p a 1\nvalue q a 1\noptional a b\nvalue p b 1\nvalue q a 1", 8, api.ErrTwice},
		{"root a\nmember a b\ngroup a 0 1 b\ngroup a 0 1 b", 4, api.ErrArg},
		{"root a\noptional a b\ngroup a 0 1 b", 3, api.ErrArg},
		{"root a\noptional a b\nmember b c\ngroup a 0 1 c", 4, api.ErrArg},
	} {
		wantUnparsed(t, x.text, x.line, x.want)
	}
}

// The end of the text is at the number of lines plus 1.
func TestParseEnd(t *testing.T) {
	for text, line := range map[string]int{
		"":                                   1,
		"\n":                                 2,
		"#":                                  2,
		"  \n#\n\n":                          4,
		"attribute a\nrequire 0":             3,
		"attribute a\nlimit a = 0\n":         3,
		begun:                                4,
		strings.TrimSuffix(begun, "\n"):      4,
		begun + "\n":                         5,
		begun + "group r 1 1 x\nmember x y ": 6,
	} {
		wantUnparsed(t, text, line, api.ErrArg)
	}
	for _, s := range []string{"group r 0 0 x", "group r 0 1 x", "group r 1 1 x"} {
		parsed(t, begun+s)
	}
}

// numbered is so many lines, in each of which ? is its number.
func numbered(line string, first, last int) string {
	var text strings.Builder
	for i := first; i <= last; i++ {
		text.WriteString(strings.ReplaceAll(line, "?", strconv.Itoa(i)) + "\n")
	}
	return text.String()
}

func TestParseLimits(t *testing.T) {
	for _, x := range []struct {
		line  string
		count int
	}{
		{"optional r f?", api.MaxFeatures - 2},
		{"attribute a?", api.MaxAttributes - 1},
		{"require r => x", api.MaxRequires},
		{"limit a = 0", api.MaxLimits},
	} {
		head := begun + "group r 0 1 x\n"
		m := parsed(t, head+numbered(x.line, 1, x.count))
		if e := model.Check(m); e != api.OK {
			t.Errorf("%s: %v", x.line, e)
		}
		wantUnparsed(t, head+numbered(x.line, 1, x.count+1), 4+x.count+1, api.ErrLimit)
	}
	many := numbered("optional r f?", 1, 22)
	wantUnparsed(t, begun+many+"optional r f22", 26, api.ErrTwice)
	wantUnparsed(t, begun+many+"optional r 1", 26, api.ErrName)
	wantUnparsed(t, begun+numbered("attribute a?", 1, 7)+"attribute a", 11, api.ErrTwice)
	wantUnparsed(t, begun+numbered("require ?", 0, 1)+strings.Repeat("require 1\n", 62)+"require y", 68, api.ErrName)
	wantUnparsed(t, begun+strings.Repeat("limit a = 1\n", 16)+"limit b = 1", 20, api.ErrName)
}

func TestParseLength(t *testing.T) {
	text := strings.Repeat(" ", api.MaxModel-len("\nroot a")) + "\nroot a"
	parsed(t, text)
	wantUnparsed(t, text+"\n", 0, api.ErrLimit)
	wantUnparsed(t, strings.Repeat("\n", api.MaxModel+1), 0, api.ErrLimit)
	wantUnparsed(t, strings.Repeat("\n", api.MaxModel), api.MaxModel+1, api.ErrArg)
	wantUnparsed(t, "x"+strings.Repeat(" ", api.MaxModel), 0, api.ErrLimit)
}

// The longest formulas of a requirement.
func TestParseLongFormulas(t *testing.T) {
	rest := " r" + strings.Repeat(" ", api.MaxFormula-2)
	parsed(t, "root r\nrequire"+rest+"\n")
	wantUnparsed(t, "root r\nrequire"+rest+" \n", 2, api.ErrForm)
	parsed(t, "root r\nrequire "+strings.Repeat("!", 63)+"r")
	parsed(t, "root r\nrequire r"+strings.Repeat("|r", 998))
}

// P3.3

func TestPrint(t *testing.T) {
	if s, e := model.Print(parsed(t, phone)); s != phone || e != api.OK {
		t.Errorf("Print: %q, %v", s, e)
	}
	m := parsed(t, "attribute b\nroot a\nmember a c\nmember a b\ngroup a 0 2 b c\nattribute a\n"+
		"value a c 2147483648\nvalue b b -2147483648\nvalue b a 0\noptional b d\nvalue a a 1\nlimit b = -9223372036854775808\nlimit a >= 0\nrequire !(a|!(1&0))\nmandatory c e\nrequire a?b:c")
	want := "root a\nmember a c\nmember a b\noptional b d\nmandatory c e\ngroup a 0 2 b c\nattribute b\nvalue b b -2147483648\n" +
		"attribute a\nvalue a a 1\nvalue a c 2147483648\nrequire !(a | !(1 & 0))\nrequire a ? b : c\nlimit b = -9223372036854775808\nlimit a >= 0\n"
	if s, e := model.Print(m); s != want || e != api.OK {
		t.Errorf("Print: %q, %v", s, e)
	}
}

// P3.12

func TestPrintedAndRead(t *testing.T) {
	long := full()
	for k := range long.Requires {
		long.Requires[k] = node(api.OpAnd, slices.Repeat([]api.Expr{name("f23")}, 999)...)
	}
	for _, m := range append(models(t, 300), full(), long) {
		before := clone(m)
		s, e := model.Print(m)
		if e != api.OK {
			t.Fatalf("Print: %v", e)
		}
		if got := parsed(t, s); !model.Same(got, m) {
			t.Errorf("Parse of %q: %v", s, got)
		}
		if !model.Same(m, before) {
			t.Fatal("the model is changed")
		}
	}
}
