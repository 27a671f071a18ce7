package bench_test

import (
	"strconv"
	"strings"
	"testing"

	"motley/api"
)

// wide is a model with as many features as there may be; all but the root are optional.
func wide() []string {
	lines := []string{"root F0"}
	for i := 1; i < api.MaxFeatures; i++ {
		lines = append(lines, "optional F0 F"+strconv.Itoa(i))
	}
	return lines
}

func TestModel(t *testing.T) {
	for _, x := range []struct{ lines, want []string }{
		{phone, []string{"features 5", "rules 10", "products 3", "core Phone,Screen", "dead -", "false -", "redundant 9"}},
		{family, []string{"features 3", "rules 4", "products 3", "core A", "dead -", "false -", "redundant"}},
		{[]string{"root x"}, []string{"features 1", "rules 1", "products 1", "core x", "dead -", "false -", "redundant"}},
		{
			[]string{"root r", "optional r a", "optional r b", "optional r c", "optional a d", "require r => b", "require !c", "require a => d", "require a | r", "require !(c & a)"},
			[]string{"features 5", "rules 10", "products 2", "core r,b", "dead c", "false b,d", "redundant 8 9"},
		},
		{[]string{"root A", "optional A B", "require !A"}, []string{"features 2", "rules 3", "void"}},
		{wide(), []string{"features 24", "rules 24", "products 8388608", "core F0", "dead -", "false -", "redundant"}},
	} {
		b := workspace(t, map[string][]string{"model": x.lines})
		answers(t, b, is("model", x.want...), is("model x", "error 4"))
	}
}

func TestRules(t *testing.T) {
	b := workspace(t, map[string][]string{"model": phone})
	says(t, b, "rules",
		"0 root Phone", "1 Screen needs Phone", "2 Phone needs Screen", "3 Gps needs Phone", "4 Basic needs Screen",
		"5 Colour needs Screen", "6 Screen has at least 1 of Basic Colour", "7 Screen has at most 1 of Basic Colour",
		"8 require Gps => Colour", "9 limit price <= 30")
	says(t, b, "rules x", "error 4")
	replace(t, b, "model", "root A", "require !A")
	says(t, b, "rules", "0 root A", "1 require !A")
}

func TestCount(t *testing.T) {
	b := workspace(t, map[string][]string{"model": phone})
	ok(t, b, "set s Gps | Basic", "set none 0", "set every 1")
	answers(t, b,
		is("count all", "32"), is("count valid", "3"), is("count s", "24"), is("count none", "0"), is("count every", "32"),
		is("count", "error 4"), is("count all all", "error 4"), is("count t", "error 6"), is("count Gps", "error 6"),
		is("count -", "error 6"), is("count ALL", "error 6"),
	)
	replace(t, b, "model", wide()...)
	answers(t, b, is("count all", "16777216"), is("count valid", "8388608"))
}

func TestList(t *testing.T) {
	b := workspace(t, map[string][]string{"model": phone})
	ok(t, b, "set s !Phone & !Screen & (Gps ^ Colour)", "set none 0")
	answers(t, b,
		is("list valid", "Phone,Screen,Basic", "Phone,Screen,Colour", "Phone,Screen,Gps,Colour"),
		is("list s", "Gps", "Gps,Basic", "Colour", "Basic,Colour"),
		is("list none"),
		is("list", "error 4"), is("list all all", "error 4"), is("list x", "error 6"),
	)
	replace(t, b, "model", "root A", "optional A B", "require !A")
	answers(t, b, is("list all", "-", "A", "B", "A,B"), is("list valid"))
}

func TestListIsShort(t *testing.T) {
	lines := []string{"root a", "optional a b", "optional a c", "optional a d", "optional a e", "optional a f", "optional a g"}
	b := workspace(t, map[string][]string{"model": lines})
	ok(t, b, "set s !a | a & b & c & d & e & f & g")
	answers(t, b, is("count all", "128"), is("count valid", "64"), is("count s", "65"), is("list all", "error 5"), is("list s", "error 5"))
	if got := b.Do("list valid"); strings.Count(got, "\n") != 64 || !strings.HasPrefix(got, "a\na,b\na,c\na,b,c\n") || !strings.HasSuffix(got, "\na,b,c,d,e,f,g\n") {
		t.Errorf("list valid: %q", got)
	}
}

func TestLeast(t *testing.T) {
	b := workspace(t, map[string][]string{"model": phone})
	ok(t, b, "set s Phone & Screen & Gps | Colour", "set none 0", "set last Colour")
	answers(t, b,
		is("least all", "-"), is("least valid", "Phone,Screen,Basic"), is("least s", "Colour"), is("least last", "Colour"), // not the least number
		is("least none", "error 8"), is("least", "error 4"), is("least all all", "error 4"), is("least x", "error 6"),
	)
	replace(t, b, "model", "root A", "require !A")
	says(t, b, "least valid", "error 8")
}

func TestWhy(t *testing.T) {
	b := workspace(t, map[string][]string{"model": phone})
	ok(t, b, "set s Gps & Basic", "set none 0", "set some Basic", "set t !Screen")
	answers(t, b,
		is("why s", "5 Colour needs Screen", "7 Screen has at most 1 of Basic Colour", "8 require Gps => Colour"),
		is("why t", "0 root Phone", "2 Phone needs Screen"),
		is("why none"), // no rule is needed
		is("why some", "error 8"), is("why all", "error 8"), is("why valid", "error 8"),
		is("why", "error 4"), is("why all all", "error 4"), is("why x", "error 6"),
	)
	replace(t, b, "model", "root A", "optional A B", "require !A")
	answers(t, b, is("why all", "0 root A", "2 require !A"), is("why valid"))
}

// The model is that of the text of its document, with all errors of such a text.
func TestModelErrors(t *testing.T) {
	commands := []string{
		"model", "rules", "count all", "list all", "least all", "why all", "+ A", "- A", "undo", "session", "complete p",
		"sample 1", "bound 1", "derive A", "diags all", "good all", "run A", "runs all", "causes all",
		"change v", "differ v all", "lift all A", "trim all",
	}
	b := workspace(t, map[string][]string{"main": {"x"}, "edit": {"x"}})
	ok(t, b, "keep v")
	for _, s := range commands {
		says(t, b, s, "error 8")
	}
	for want, lines := range map[string][]string{
		"error 2":  {"# nothing"},
		"error 4":  {"root A", "what"},
		"error 5":  append(wide(), "optional F0 G"),
		"error 6":  {"root A", "optional B C"},
		"error 7":  {"root A", "optional A A"},
		"error 10": {"root A", "root B"},
	} {
		replace(t, b, "model", lines...)
		for _, s := range commands {
			says(t, b, s, want)
		}
	}
	answers(t, b, is("docs", "edit", "main", "model"), is("keep v", "ok"), is("versions", "v"), is("fuel 1", "ok"), is("set s A", "ok"))
}
