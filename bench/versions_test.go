package bench_test

import (
	"testing"

	"motley/bench"
)

func TestVersions(t *testing.T) {
	b := workspace(t, map[string][]string{"model": family, "main": divides})
	answers(t, b,
		is("versions"), is("change v", "error 8"), is("differ v all", "error 8"),
		is("keep v", "ok"), is("keep B", "ok"), is("keep a-", "ok"), is("keep .", "ok"), is("keep model", "ok"), is("keep v", "ok"), is("keep all", "ok"),
		is("versions", ".", "B", "a-", "all", "model", "v"),
		is("keep", "error 4"), is("keep v v", "error 4"), is("versions v", "error 4"),
		is("docs", "main", "model"), // a version is no document
	)
}

// A version keeps the documents as they were, whatever becomes of them.
func TestKeep(t *testing.T) {
	b := workspace(t, map[string][]string{"model": family, "main": {"fn main() {", "print 1;"}})
	put(t, b, "main", "}")
	ok(t, b, "keep v", "set s B")
	same := []string{"tokens 0", "trees 0", "good 0", "runs 0"}
	answers(t, b, is("change v", "refactoring 3 3 3"), is("differ v all", same...))
	put(t, b, "main", "fn f() { }")
	put(t, b, "model", "require C")
	answers(t, b, is("change v", "specialization 3 2 2"), is("differ v all", "tokens 8", "trees 8", "good 0", "runs 0"))
	ok(t, b, "keep w", "drop main", "drop model")
	put(t, b, "model", "root A", "optional A B", "optional A C")
	put(t, b, "main", "fn main() {", "#if !B", "print 1;", "#endif", "}")
	answers(t, b, is("differ v all", "tokens 4", "trees 4", "good 0", "runs 4"), is("differ w s", "tokens 4", "trees 4", "good 0", "runs 4"))
	answers(t, b, is("change v", "generalization 3 4 3"), is("change w", "generalization 2 4 2"))
	put(t, b, "edit", "fn main() {", "print 2;", "}")
	ok(t, b, "keep v", "lift s B") // v in place of v
	answers(t, b,
		is("differ v all", "tokens 4", "trees 4", "good 0", "runs 4"), is("change v", "refactoring 4 4 4"), is("change w", "generalization 2 4 2"),
		is("keep x", "ok"), is("trim s", "ok"), is("differ x s", same...), is("differ x all", "tokens 4", "trees 4", "good 0", "runs 4"), is("versions", "v", "w", "x"),
	)
}

func TestChange(t *testing.T) {
	for _, x := range []struct {
		old, new []string
		want     string
	}{
		{family, family, "refactoring 3 3 3"},
		{family, []string{"root A", "optional A C", "optional C B"}, "refactoring 3 3 3"},
		{family, []string{"root A", "optional A B", "optional A C"}, "generalization 3 4 3"},
		{family, []string{"root A", "optional A C"}, "specialization 3 2 2"},
		{family, []string{"root A", "optional A B"}, "arbitrary 3 2 1"},
		{family, phone, "arbitrary 3 3 0"},
		{[]string{"root A"}, []string{"root A", "optional A b"}, "generalization 1 2 1"},
		{[]string{"root A", "require !A"}, []string{"root B", "require !B"}, "refactoring 0 0 0"},
		{wide(), phone, "error 5"},
		{nil, family, "error 8"},
		{[]string{"root"}, family, "error 4"},
		{[]string{"root A", "optional B C"}, family, "error 6"},
		{[]string{"root A", "root B"}, family, "error 10"},
	} {
		b := workspace(t, map[string][]string{"model": x.old, "other": {"x"}})
		ok(t, b, "keep v")
		replace(t, b, "model", x.new...)
		answers(t, b, is("change v", x.want), is("change", "error 4"), is("change v v", "error 4"), is("change w", "error 8"))
	}
}

func TestDiffer(t *testing.T) {
	b := workspace(t, map[string][]string{"model": family, "main": {
		"fn main() {", "#if A", "var x : int = read;", "print x;", "#elif B", "print 1;", "#endif", "}",
	}})
	ok(t, b, "keep v", "set s B | C", "set none 0")
	replace(t, b, "main", "fn main() {", "#if A", "var x : int = read;", "#if C", "print x + 1;", "#elif B", "print x / x;", "#else", "print (x);", "#endif", "#elif B", "print y;", "#endif", "}")
	answers(t, b,
		is("differ v all", "tokens 6", "trees 5", "good 2", "runs 5"),
		is("differ v all 1", "tokens 6", "trees 5", "good 2", "runs 4"),
		is("differ v all 1 2 3", "tokens 6", "trees 5", "good 2", "runs 4"),
		is("differ v valid", "tokens 3", "trees 2", "good 0", "runs 2"),
		is("differ v s 1", "tokens 5", "trees 5", "good 2", "runs 4"),
		is("differ v none", "tokens 0", "trees 0", "good 0", "runs 0"),
		is("fuel 1", "ok"), is("differ v all", "tokens 6", "trees 5", "good 2", "runs 2"),
		is("differ", "error 4"), is("differ v", "error 4"), is("differ v x", "error 6"), is("differ w all", "error 8"),
	)
}

// The files of both versions are read with the names of the model that is there.
func TestDifferWithTheModel(t *testing.T) {
	b := workspace(t, map[string][]string{"model": {"root X"}, "main": {"fn main() {", "#if B", "print 1;", "#endif", `#include "lib"`, "}"}, "lib": {"print 2;"}, "edit": {"$"}})
	ok(t, b, "keep v")
	replace(t, b, "model", family...)
	replace(t, b, "edit", "$ $")
	says(t, b, "differ v all", "tokens 0", "trees 0", "good 0", "runs 0")
	replace(t, b, "lib", "#if C", "print 2;", "#endif")
	says(t, b, "differ v all", "tokens 4", "trees 4", "good 0", "runs 4")
	ok(t, b, "drop lib")
	says(t, b, "differ v all", "error 6")
	replace(t, b, "main", "fn main() { }")
	says(t, b, "differ v all", "tokens 8", "trees 8", "good 0", "runs 8")
	ok(t, b, "keep v")
	replace(t, b, "main", "#endif")
	answers(t, b, is("differ v all", "error 10"), is("keep w", "ok"), is("drop main", "ok"))
	put(t, b, "main", "$")
	answers(t, b, is("differ v all", "error 4"), is("differ w all", "error 10")) // the old files come first
}

func TestDifferWithoutMain(t *testing.T) {
	b := workspace(t, map[string][]string{"model": family})
	ok(t, b, "keep v")
	put(t, b, "main", divides...)
	answers(t, b, is("differ v all", "error 8"), is("keep w", "ok"), is("differ w all", "tokens 0", "trees 0", "good 0", "runs 0"))
	ok(t, b, "drop main")
	answers(t, b, is("differ w all", "error 8"), is("differ v all", "error 8"), is("differ v x", "error 6"))
}

// library is a workspace with a file besides main.
func library(t *testing.T) *bench.Bench {
	t.Helper()
	b := workspace(t, map[string][]string{
		"model": family,
		"main":  {`#include "lib"`, "fn main() {", "f(1);", "#ifdef B", "print 2;", "#else", "print 3;", "#endif", "}"},
		"lib":   {"fn f(x : int) {", "#if C", "print x;", "#endif", "}"},
	})
	ok(t, b, "set s B", "set none 0")
	return b
}

func TestLift(t *testing.T) {
	b := library(t)
	put(t, b, "edit", "fn f(x : int) { // nothing", "", "}", "fn main() {", "  f(1);", "f(2);", "print 2;", "}")
	answers(t, b, is("derive A", "fn f ( x : int ) {", "}", "fn main ( ) {", "f ( 1 ) ;", "print 3 ;", "}"), is("lift s A,B", "ok"))
	says(t, b, "show main", `#include "lib"`, "fn main() {", "f(1);", "#if defined(B)", "f ( 2 ) ;", "#endif", "#ifdef B", "print 2;", "#else", "print 3;", "#endif", "}")
	says(t, b, "show lib", "fn f(x : int) {", "#if C", "print x;", "#endif", "}")
	says(t, b, "derive A,B", "fn f ( x : int ) {", "}", "fn main ( ) {", "f ( 1 ) ;", "f ( 2 ) ;", "print 2 ;", "}")
	says(t, b, "derive A", "fn f ( x : int ) {", "}", "fn main ( ) {", "f ( 1 ) ;", "print 3 ;", "}")
	before := b.Do("show main")
	answers(t, b, is("lift s A,B", "ok"), is("lift s B", "ok"), is("lift all B", "ok"), is("docs", "edit", "lib", "main", "model"))
	if after := b.Do("show main"); after != before {
		t.Errorf("nothing is edited, but: %q", after)
	}
	replace(t, b, "edit", "fn f(x : int) {", "}", "fn main() {", "}")
	ok(t, b, "lift valid A")
	says(t, b, "derive A", "fn f ( x : int ) {", "}", "fn main ( ) {", "}")
	says(t, b, "derive -", "fn f ( x : int ) {", "}", "fn main ( ) {", "f ( 1 ) ;", "print 3 ;", "}")
}

func TestLiftErrors(t *testing.T) {
	b := library(t)
	answers(t, b, is("lift s B", "error 8"), is("lift x B", "error 8"))
	put(t, b, "edit", "fn f(x : int) {", "print 1;", "}")
	before := b.Do("show main") + b.Do("show lib")
	answers(t, b,
		is("lift s B", "error 10"), // a line would have to be inserted into lib
		is("lift s A", "error 2"), is("lift none B", "error 2"), is("lift valid B", "error 2"),
		is("lift", "error 4"), is("lift s", "error 4"), is("lift s B B", "error 4"), is("lift x B", "error 6"), is("lift s x", "error 6"), is("lift s B,B", "error 7"),
	)
	put(t, b, "edit", "$")
	answers(t, b, is("lift s B", "error 4"), is("lift s A", "error 2"))
	replace(t, b, "edit", "fn f(x : int) {", "}", "fn main() {", "f(A);", "f(1);", "print 2;", "}")
	says(t, b, "lift s A,B", "error 10") // A is 1 there
	if after := b.Do("show main") + b.Do("show lib"); after != before {
		t.Errorf("after errors: %q, before: %q", after, before)
	}
	answers(t, b, is("lift s B", "ok"), is("derive B", "fn f ( x : int ) {", "}", "fn main ( ) {", "f ( A ) ;", "f ( 1 ) ;", "print 2 ;", "}"))
}

func TestLiftWithLongGuard(t *testing.T) {
	b := workspace(t, map[string][]string{"model": wide(), "main": {"x"}, "edit": {"y"}})
	ok(t, b, "set s F0 ^ F1 ^ F2 ^ F3", "set t F0 ^ F1 ^ F2 ^ F3 ^ F4")
	answers(t, b, is("lift t F0", "error 5"), is("show main", "x"), is("lift s F0", "ok"), is("derive F0", "y"), is("derive -", "x"))
}

func TestTrim(t *testing.T) {
	b := library(t)
	put(t, b, "edit", "x")
	ok(t, b, "set c !C", "trim s")
	says(t, b, "show main", `#include "lib"`, "fn main() {", "f(1);", "#ifdef B", "print 2;", "#else", "", "#endif", "}")
	says(t, b, "show lib", "fn f(x : int) {", "#if C", "print x;", "#endif", "}")
	ok(t, b, "trim c")
	says(t, b, "show lib", "fn f(x : int) {", "#if C", "", "#endif", "}")
	answers(t, b, is("show edit", "x"), is("trim", "error 4"), is("trim s s", "error 4"), is("trim x", "error 6"))
	ok(t, b, "trim none")
	says(t, b, "show main", `#include "lib"`, "", "", "#ifdef B", "", "#else", "", "#endif", "")
	says(t, b, "show lib", "", "#if C", "", "#endif", "")
	put(t, b, "main", "x")
	says(t, b, "show main", `#include "lib"`, "", "", "#ifdef B", "", "#else", "", "#endif", "", "x")
}
