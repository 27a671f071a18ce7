package bench_test

import (
	"strings"
	"testing"

	"motley/bench"
)

var long = strings.Repeat("x", 32)

// badNames are names that no document and no version has.
var badNames = []string{"a$", "a/b", "a,b", "é", "\xff", "a\xff", "a\n", "\t", "#", "+", "\"", long + "x", "a\u00a0", "-é", "\x00"}

func TestPut(t *testing.T) {
	b := bench.New()
	answers(t, b,
		is("put a", "ok"), is("show a", ""),
		is("put a ", "ok"), is("show a", "", ""),
		is("put a  x  y ", "ok"), is("show a", "", "", " x  y "),
		is("  put   b   # \t\"x\"", "ok"), is("show b", "  # \t\"x\""),
		is("put a put a x", "ok"), is("show a", "", "", " x  y ", "put a x"),
		is("show b", "  # \t\"x\""),
		is("put put put", "ok"), is("show put", "put"), // a word that comes twice
		is("put a a", "ok"), is("show a", "", "", " x  y ", "put a x", "a"),
		is("put", "error 4"), is("put  ", "error 4"),
	)
}

func TestNamesOfDocuments(t *testing.T) {
	b := bench.New()
	good := []string{"a", "Z", "0", "9", "_", ".", "-", "..", "a.b-c_D", "0-1.x", "model", "all", "valid", "main", long}
	for _, name := range good {
		answers(t, b, is("put "+name+" "+name, "ok"), is("show "+name, name), is("keep "+name, "ok"), is("drop "+name, "ok"), is("show "+name, "error 8"), is("drop "+name, "error 8"))
	}
	says(t, b, "docs")
	for _, name := range badNames {
		for _, command := range []string{"put NAME x", "put NAME", "drop NAME", "show NAME", "keep NAME", "change NAME", "differ NAME all"} {
			says(t, b, strings.Replace(command, "NAME", name, 1), "error 6")
		}
	}
	says(t, b, "docs")
}

func TestDocs(t *testing.T) {
	b := bench.New()
	for _, name := range []string{"b", "a", "_", "Z", "a-", "a.", "aa", "9", "model", "edit", "-"} {
		put(t, b, name, "x", "y")
	}
	answers(t, b,
		is("docs", "-", "9", "Z", "_", "a", "a-", "a.", "aa", "b", "edit", "model"),
		is("drop a", "ok"), is("drop _", "ok"),
		is("docs", "-", "9", "Z", "a-", "a.", "aa", "b", "edit", "model"),
		is("put a z", "ok"), is("show a", "z"), // nothing is left of what was dropped
		is("docs a", "error 4"), is("drop", "error 4"), is("drop a b", "error 4"), is("show", "error 4"), is("show a b", "error 4"),
		is("show c", "error 8"), is("drop c", "error 8"), is("show b", "x", "y"),
	)
}

func TestFiles(t *testing.T) {
	b := workspace(t, map[string][]string{
		"model": {"root A"},
		"main":  {`#include "b"`, `#include "a.x"`, `#include "Z"`, "fn main() { }"},
		"edit":  {"not $ a file"},
		"b":     {"var x : int = y;"},
		"a.x":   {"var y : bool;", "var y : int;"},
		"Z":     {"fn f() : int { }"},
		"-":     {"unused"},
	})
	says(t, b, "diags all", "21 b:1 -", "20 a.x:2 -", "27 Z:1 -")
	ok(t, b, "put a.x $")
	says(t, b, "diags all", "error 4")
	ok(t, b, "drop a.x")
	says(t, b, "diags all", "error 6")
	replace(t, b, "main", `#include "edit"`)
	says(t, b, "good all", "error 6") // edit is no file
	replace(t, b, "main", `#include "model"`)
	says(t, b, "good all", "error 6")
}

func TestTooManyFiles(t *testing.T) {
	b := workspace(t, map[string][]string{"model": {"root A"}, "main": {"fn main() { }"}, "edit": {"x"}})
	for i := range 15 {
		put(t, b, "f"+strings.Repeat("x", i), "x")
	}
	answers(t, b, is("good all", "2"), is("put g", "ok"), is("good all", "error 5"), is("derive A", "error 5"), is("drop g", "ok"), is("good all", "2"))
}

// P11.1: what the text of a document is.
func TestTextsOfDocuments(t *testing.T) {
	b := bench.New()
	ok(t, b, "put model", "put model root A", "put model")
	says(t, b, "count all", "2")
	ok(t, b, "put main #define X \\")
	says(t, b, "good all", "error 4")
	replace(t, b, "main", "fn main() { print", "7", ";", "", "} // x")
	says(t, b, "derive A", "fn main ( ) { print", "7", ";", "}")
}
