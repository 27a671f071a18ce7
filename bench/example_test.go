package bench_test

import (
	"testing"

	"motley/bench"
)

// The examples of the chapter.
func TestExamples(t *testing.T) {
	b := bench.New()
	answers(t, b,
		is("put model root a", "ok"), is("put model optional a b", "ok"),
		is("model", "features 2", "rules 2", "products 2", "core a", "dead -", "false -", "redundant"),
		is("list valid", "a", "a,b"), is("set s b & !a", "ok"), is("count s", "1"), is("why s", "1 b needs a"),
		is("+ b", "ok"), is("session", "a forced", "b chosen"),
		is("put main fn main() {", "ok"), is("put main #ifdef b", "ok"), is("put main print 7;", "ok"), is("put main #endif", "ok"), is("put main }", "ok"),
		is("runs all", "2 - done 0", "2 b done 1 7"),
		is("run b,x", "error 6"), is("run b 1x", "error 4"), is("show other", "error 8"), is("fuel -1", "error 3"),
	)
}

// The examples of the document, which are one story.
func TestStory(t *testing.T) {
	b := workspace(t, map[string][]string{"model": family, "main": divides})
	ok(t, b, "keep v", "set s B")
	answers(t, b,
		is("list valid", "A", "A,C", "A,B,C"), is("count valid", "3"),
		is("+ B", "ok"), is("session", "A forced", "B chosen", "C forced"),
		is("sample 2", "A", "A,B,C", "A,C"), is("bound 2", "+A +B", "+A -C", "-B +C"),
		is("diags all"), is("good all", "8"),
		is("runs valid", "2 A zero 1", "1 A,B,C done 1 1"), is("causes valid", "-B", "-C"), is("causes all", "-B"),
	)
	put(t, b, "edit", "fn main ( ) {", "print 3 ;", "}")
	answers(t, b,
		is("lift s A,B,C", "ok"),
		is("show main", "fn main() {", "#if defined(B)", "print 3 ;", "#endif", "#ifdef B", "#if !(defined(B))", "print 1;", "#endif", "#else", "print 2 / read;", "#endif", "}"),
		is("derive A,B,C", "fn main ( ) {", "print 3 ;", "}"),
		is("derive A,C", "fn main ( ) {", "print 2 / read ;", "}"), is("derive A", "fn main ( ) {", "print 2 / read ;", "}"),
		is("differ v valid", "tokens 1", "trees 1", "good 0", "runs 1"),
	)
	replace(t, b, "model", family[:3]...)
	answers(t, b, is("change v", "generalization 3 4 3"), is("list valid", "A", "A,B", "A,C", "A,B,C"))
}
