package bench_test

import "testing"

func TestChoices(t *testing.T) {
	b := workspace(t, map[string][]string{"model": phone})
	answers(t, b,
		is("session", "Phone forced", "Screen forced", "Gps free", "Basic free", "Colour free"),
		is("complete price", "Phone,Screen,Basic 0"),
		is("+ Gps", "ok"),
		is("session", "Phone forced", "Screen forced", "Gps chosen", "Basic barred", "Colour forced"),
		is("complete price", "Phone,Screen,Gps,Colour 27"),
		is("+ Gps", "error 7"), is("- Gps", "error 7"), is("+ Basic", "error 9"), is("- Colour", "error 9"), is("- Phone", "error 9"),
		is("- Basic", "ok"), is("+ Phone", "ok"),
		is("session", "Phone chosen", "Screen forced", "Gps chosen", "Basic refused", "Colour forced"),
		is("undo", "+ Phone"), is("undo", "- Basic"),
		is("session", "Phone forced", "Screen forced", "Gps chosen", "Basic barred", "Colour forced"),
		is("undo", "+ Gps"), is("undo", "error 8"),
		is("- Gps", "ok"), is("+ Colour", "ok"),
		is("session", "Phone forced", "Screen forced", "Gps refused", "Basic barred", "Colour chosen"),
		is("complete price", "Phone,Screen,Colour 20"),
		is("undo", "+ Colour"), is("undo", "- Gps"), is("undo", "error 8"),
	)
}

func TestChoicesErrors(t *testing.T) {
	b := workspace(t, map[string][]string{"model": phone})
	answers(t, b,
		is("+", "error 4"), is("-", "error 4"), is("+ Gps Basic", "error 4"), is("- Gps Basic", "error 4"),
		is("+ gps", "error 6"), is("- x", "error 6"), is("+ -", "error 6"), is("+ Gps,Basic", "error 6"), is("+ price", "error 6"),
		is("undo x", "error 4"), is("session x", "error 4"), is("complete", "error 4"), is("complete price price", "error 4"),
		is("complete x", "error 8"), is("complete Gps", "error 8"), is("complete -", "error 8"), is("complete $", "error 8"),
		is("undo", "error 8"),
	)
}

func TestComplete(t *testing.T) {
	b := workspace(t, map[string][]string{"model": {
		"root A", "optional A B", "optional A C", "attribute p", "attribute q", "value p A 5", "value p B -2147483648", "value p C -2147483648",
		"value q B 1", "value q C 1", "require B | C", "require !(B & C)",
	}})
	answers(t, b,
		is("complete p", "A,B -2147483643"), is("complete q", "A,B 1"), is("+ C", "ok"), // of several the least one
		is("complete p", "A,C -2147483643"), is("complete q", "A,C 1"),
	)
}

// The choices are kept by name; what they mean depends on the model that is there.
func TestChoicesFollowTheModel(t *testing.T) {
	b := workspace(t, map[string][]string{"model": family})
	ok(t, b, "+ C", "- B")
	replace(t, b, "model", "root C", "optional C A", "optional A B", "attribute p")
	says(t, b, "session", "C chosen", "A free", "B refused")
	for _, x := range []struct {
		want  string
		model []string
	}{
		{"error 6", []string{"root B", "attribute p"}},                                   // there is no C
		{"error 6", []string{"root C", "attribute p"}},                                   // there is no B
		{"error 9", []string{"root C", "optional C B", "attribute p", "require C => B"}}, // the second choice is refused
		{"error 9", []string{"root B", "optional B C", "attribute p"}},                   // likewise
		{"error 9", []string{"root C", "optional C B", "attribute p", "require !C"}},     // void
		{"error 9", []string{"root B", "attribute p", "require !B"}},                     // void, and there is no C
		{"error 4", []string{"root B", "attribute"}},                                     // no model
	} {
		replace(t, b, "model", x.model...)
		for _, command := range []string{"+ B", "- B", "undo", "session", "complete p", "complete q"} {
			says(t, b, command, x.want)
		}
	}
	replace(t, b, "model", family...)
	answers(t, b, is("session", "A forced", "B refused", "C chosen"), is("undo", "- B"), is("undo", "+ C"), is("undo", "error 8"))
}

// The choices are no sets: only the session has them.
func TestChoicesAreApart(t *testing.T) {
	b := workspace(t, map[string][]string{"model": family})
	ok(t, b, "+ B", "keep v")
	answers(t, b, is("count valid", "3"), is("sample 1", "A", "A,B,C"), is("drop model", "ok"), is("session", "error 8"))
	put(t, b, "model", family...)
	says(t, b, "undo", "+ B")
}
