package bench_test

import (
	"strings"
	"testing"

	"motley/bench"
)

// divided is the workspace of the document's examples.
func divided(t *testing.T) *bench.Bench {
	t.Helper()
	b := workspace(t, map[string][]string{"model": family, "main": divides})
	ok(t, b, "set s B", "set none 0")
	return b
}

func TestConfigurations(t *testing.T) {
	b := workspace(t, map[string][]string{
		"model": family,
		"main":  {"fn main() {", "#if A", "print 1;", "#endif", "#if B", "print 2;", "#endif", "#if C", "print 3;", "#endif", "}"},
	})
	answers(t, b,
		is("run -", "done 0"), is("run A", "done 1 1"), is("run B", "done 1 2"), is("run C", "done 1 3"),
		is("run A,B", "done 2 1 2"), is("run B,A", "done 2 1 2"), is("run C,A,B", "done 3 1 2 3"), is("run C,B", "done 2 2 3"),
	)
	for word, want := range map[string]string{
		"x": "error 6", "a": "error 6", ",": "error 6", "A,": "error 6", ",A": "error 6", "A,,B": "error 6", "-,A": "error 6",
		"A,-": "error 6", "--": "error 6", "AB": "error 6", "A;B": "error 6", "all": "error 6", "valid": "error 6", ".": "error 6", "0": "error 6", "+A": "error 6",
		"A,A": "error 7", "B,A,B": "error 7", "A,A,x": "error 7", "A,x,A": "error 6", "x,A,A": "error 6", "A,B,C,A": "error 7",
	} {
		for _, command := range []string{"run WORD", "derive WORD", "run WORD 1 2"} {
			says(t, b, strings.Replace(command, "WORD", word, 1), want)
		}
		put(t, b, "edit", "x")
		says(t, b, "lift all "+word, want)
	}
}

func TestDerive(t *testing.T) {
	b := divided(t)
	answers(t, b,
		is("derive A,B", "fn main ( ) {", "print 1 ;", "}"), is("derive -", "fn main ( ) {", "print 2 / read ;", "}"),
		is("derive", "error 4"), is("derive A B", "error 4"),
	)
	replace(t, b, "main", "#if B", "#error", "$X{", "#endif")
	says(t, b, "derive A", "error 4")
	replace(t, b, "main", "#if B", "#error", "} x // y", "#endif", "", "#define M z  z", "M")
	answers(t, b, is("derive A", "z z"), is("derive B,A", "} x", "z z"))
	replace(t, b, "main", "")
	says(t, b, "derive A") // no token, no line
	replace(t, b, "main", strings.Repeat("A ", 256), strings.Repeat("x ", 256))
	says(t, b, "derive A", strings.TrimSpace(strings.Repeat("1 ", 256)), strings.TrimSpace(strings.Repeat("x ", 256)))
}

func TestDiags(t *testing.T) {
	b := workspace(t, map[string][]string{
		"model": {"root A", "optional A B", "optional A C"},
		"main": {
			`#include "lib"`, "#ifdef B", "#error x", "#endif", "fn main() {", "#if C", "print x;", "var y : int = true;", "#endif", "f();",
			"#if !A", ")", "#elif B && !C", "f(1);", "#endif", "#if 1 +", "#endif", "#if !(A && !B && C)", "}", "#endif",
		},
		"lib": {"fn f() { assert read; }", "#define G(a) a", "#ifdef C", "fn g() : int { }", "G(1", "#endif"},
	})
	ok(t, b, "set s A & !B & !C", "set none 0")
	answers(t, b,
		is("diags all", "1 lib:5 C", "3 main:3 B", "4 main:16 -", "10 lib:5 C", "10 main:12 -", "23 lib:1 A", "24 main:14 A,B"),
		is("diags valid", "1 lib:5 A,C", "3 main:3 A,B", "4 main:16 A", "10 lib:5 A,C", "23 lib:1 A", "24 main:14 A,B"),
		is("diags s", "4 main:16 A", "23 lib:1 A"), is("diags none"),
		is("good all", "0"), is("good none", "0"),
		is("diags", "error 4"), is("diags all all", "error 4"), is("diags x", "error 6"),
	)
	replace(t, b, "lib", "fn f() { assert read > 0; }")
	says(t, b, "diags all", "3 main:3 B", "4 main:16 -", "10 main:12 -", "10 end A,C", "21 main:7 A,B,C", "23 main:8 A,B,C", "24 main:14 A,B")
}

// The places of diagnostics of the tree and of the facts are those of tokens, or none.
func TestPlaces(t *testing.T) {
	b := workspace(t, map[string][]string{"model": {"root A", "optional A B"}})
	for _, x := range []struct{ main, want []string }{
		{[]string{"", "#if A", "fn main() { }", "#endif"}, []string{"29 - -"}}, // no main
		{[]string{""}, []string{"29 - -"}},
		{[]string{"#if B", "fn main() {", "#else", "fn main() { }", "#endif"}, []string{"10 end B"}},
		{[]string{"fn"}, []string{"10 end -"}},
		{[]string{"", "}"}, []string{"10 main:2 -"}},
		{[]string{"#define M 1 }", "fn main() { print", "M", "}"}, []string{"10 main:3 -"}}, // the line of the macro's name
		{[]string{"fn main() { }", "#if B", "var x : int = read;", "fn main() { }", "#endif"}, []string{"30 main:3 B", "20 main:4 B"}},
		{[]string{"fn main() { }", "#if A", "var x : int =", "#if B", "true;", "#else", "1; var x : int;", "#endif", "#endif"}, []string{"23 main:5 A,B", "20 main:7 A"}},
		{[]string{"fn main() { }", "fn f() : int {", "#if A", "return 1; return 2;", "#endif", "}"}, []string{"27 main:2 -", "28 main:4 A"}},
	} {
		replace(t, b, "main", x.main...)
		says(t, b, "diags all", x.want...)
	}
}

func TestGood(t *testing.T) {
	b := workspace(t, map[string][]string{
		"model": family,
		"main":  {"fn main() {", "#if A && C", "print x;", "#elif B", "#error", "#endif", "}"},
	})
	ok(t, b, "set s B", "set none 0")
	answers(t, b,
		is("diags all", "3 main:5 B", "21 main:3 A,C"), is("good all", "3"), is("good valid", "1"), is("good s", "0"), is("good none", "0"),
		is("run B", "done 0"), is("run A,C", "rejected 0"), // a diagnostic of the list does not reject
		is("good", "error 4"), is("good all all", "error 4"), is("good x", "error 6"),
	)
}

func TestStatuses(t *testing.T) {
	b := workspace(t, map[string][]string{
		"model": {"root A", "optional A B", "optional A C", "optional A D"},
		"main": {
			"fn f() { f(); }", "fn main() {", "print read;",
			"#if B && C", "f();", "#elif B && D", "while (1 == 1) { }", "#elif B", "print 1 / read;",
			"#elif C", "assert read == -7;", "#elif D", "print true + x;", "#endif", "print -3;", "}",
		},
	})
	ok(t, b, "set s B & C & D", "set none 0", "fuel 200")
	answers(t, b,
		is("run A", "done 2 0 -3"), is("run A 5 6", "done 2 5 -3"), is("run - -9223372036854775808", "done 2 -9223372036854775808 -3"),
		is("run A,D", "rejected 0"), is("run A,B", "zero 2 0"), is("run B 1 -1", "done 3 1 -1 -3"), is("run C", "failed 2 0"), is("run C 1 -7", "done 3 1 -3"),
		is("run B,D 4", "fuel 200 4"), is("run C,B 8 9", "deep 128 8"), is("run B,C,D 8 9", "deep 128 8"),
		is("fuel 3", "ok"), is("run B,D 4", "fuel 3 4"), is("run C,B 8", "fuel 3 8"), is("run A", "done 2 0 -3"),
		is("fuel 0", "ok"), is("run A", "fuel 0"), is("run D", "rejected 0"), is("fuel 200", "ok"),
		is("runs all 1", "2 - done 2 1 -3", "2 B zero 2 1", "4 C failed 2 1", "4 B,C deep 128 1", "2 D rejected 0", "2 B,D fuel 200 1"),
	)
}

func TestRuns(t *testing.T) {
	b := divided(t)
	answers(t, b,
		is("runs all", "4 - zero 1", "4 B done 1 1"), is("runs valid", "2 A zero 1", "1 A,B,C done 1 1"), is("runs s", "4 B done 1 1"), is("runs none"),
		is("runs all 1", "4 - done 1 2", "4 B done 1 1"), is("runs s 1", "4 B done 1 1"),
		is("runs all 2", "8 - done 1 1"), is("runs valid 2 3", "3 A done 1 1"), // the same outcomes
		is("runs", "error 4"), is("run", "error 4"), is("causes", "error 4"), is("runs x", "error 6"), is("runs x 1 y", "error 4"),
	)
	replace(t, b, "main", "fn main() {", "#if B", "print 1 / read;", "#elif C", "print 1", "/ read;", "#endif", "}")
	says(t, b, "runs all", "2 - done 0", "4 B zero 1", "2 C zero 1") // they end at different tokens
}

// A part is written with its smallest configuration; the parts are in the order of their least ones.
func TestRunsOrder(t *testing.T) {
	b := workspace(t, map[string][]string{
		"model": family,
		"main":  {"fn main() {", "#if C", "print 2;", "#elif A && B", "print 2;", "#endif", "}"},
	})
	ok(t, b, "set s A & B | C")
	says(t, b, "runs all", "3 - done 0", "5 C done 1 2")
	replace(t, b, "main", "fn main() { print", "#if C || A && B", "2", "#else", "3", "#endif", "; }")
	answers(t, b, is("runs all", "3 - done 1 3", "5 C done 1 2"), is("runs s", "5 C done 1 2"), is("runs valid", "1 A done 1 3", "2 A,C done 1 2"))
}

func TestCauses(t *testing.T) {
	b := divided(t)
	answers(t, b,
		is("causes all", "-B"), is("causes valid", "-B", "-C"), is("causes all 1"), is("causes s"), is("causes none"), is("causes x", "error 6"),
	)
	replace(t, b, "main", "fn main() {", "#if A && !B", "assert false;", "#elif C", "x", "#endif", "}")
	answers(t, b, is("causes all", "+C", "+A -B"), is("causes valid", "."))
	replace(t, b, "main", "x")
	answers(t, b, is("causes all", "."), is("causes valid", "."), is("causes none"))
}

func TestCausesLimit(t *testing.T) {
	b := workspace(t, map[string][]string{"model": wide(), "main": {"fn main() {"}})
	for _, name := range strings.Fields("F1 F2 F3 F4 F5 F6 F7 F8 F9 F10 F11 F12") {
		put(t, b, "main", "#ifndef "+name, "assert read == 1;", "#endif")
	}
	put(t, b, "main", "}")
	ok(t, b, "set s F13 | F0")
	answers(t, b, is("causes s 1 1 1 1 1 1 1 1 1 1 1 1"), is("causes s", "error 5"))
	says(t, b, "causes all", "-F1", "-F2", "-F3", "-F4", "-F5", "-F6", "-F7", "-F8", "-F9", "-F10", "-F11", "-F12")
}

func TestNoMain(t *testing.T) {
	b := workspace(t, map[string][]string{"model": family, "edit": {"x"}, "Main": {"fn main() { }"}})
	ok(t, b, "keep v")
	for _, command := range []string{"derive A", "diags all", "good all", "run A", "runs all", "causes all", "differ v all", "lift all A", "trim all"} {
		says(t, b, command, "error 8")
	}
	answers(t, b, is("change v", "refactoring 3 3 3"), is("sample 1", "A", "A,B,C"))
}

// The errors of the sources are those of package source.
func TestSourceErrors(t *testing.T) {
	b := workspace(t, map[string][]string{"model": family, "edit": {"x"}})
	commands := []string{"derive A", "diags all", "good all", "run A", "runs all", "causes all", "differ v all", "lift all A", "trim all"}
	for want, lines := range map[string][]string{
		"error 4":  {"$"},
		"error 5":  {strings.Repeat("x ", 257)},
		"error 6":  {"#define A"},
		"error 7":  {"#define F(a, a) a"},
		"error 10": {"#endif"},
		"error 11": {`#include "main"`},
	} {
		replace(t, b, "main", lines...)
		ok(t, b, "keep v")
		for _, command := range commands {
			says(t, b, command, want)
		}
	}
	replace(t, b, "model", "root defined")
	replace(t, b, "main", "x")
	for _, command := range []string{"derive -", "diags all", "good all", "run -", "runs all", "causes all", "differ v all", "lift all -", "trim all"} {
		says(t, b, command, "error 6")
	}
}
