package bench_test

import (
	"strings"
	"testing"
)

func TestSet(t *testing.T) {
	b := workspace(t, map[string][]string{"model": family})
	answers(t, b,
		is("set s B & !C", "ok"), is("list s", "B", "A,B"),
		is("  set   t   A   &B|C  ", "ok"), is("count t", "5"),
		is("set s 0", "ok"), is("count s", "0"), // another formula
		is("set s A & ", "error 4"), is("count s", "0"), // the formula stays
		is("set _9 1", "ok"), is("count _9", "8"),
		is("set "+long+" A", "ok"), is("count "+long, "4"),
		is("set set set", "ok"), is("count set", "error 6"),
		is("set B !B", "ok"), is("set B B ^ B", "ok"), is("count B", "0"), // a name of a feature may be one of a set
		is("set x x", "ok"), is("count x", "error 6"),
	)
}

func TestSetErrors(t *testing.T) {
	b := workspace(t, map[string][]string{"model": family})
	for _, name := range []string{"all", "valid", "9", "9a", "a.", "a-b", "-", ".", "é", "\xff", "a\t", long + "x", "a$"} {
		answers(t, b, is("set "+name+" A", "error 6"), is("set "+name+" &", "error 6"), is("set "+name, "error 4"), is("set "+name+"  ", "error 4"))
	}
	for _, formula := range []string{"&", "A &", "2", "A B", "(A", "A)", "A\t", "A\n", "A \xff", "é", long + "x", "A ? B", "A => ", "="} {
		says(t, b, "set s "+formula, "error 4")
	}
	answers(t, b,
		is("set", "error 4"), is("set s", "error 4"), is("count s", "error 6"),
		is("set All A", "ok"), is("set Valid A", "ok"), is("count All", "4"), is("count Valid", "4"),
	)
}

func TestSetsOfLongFormulas(t *testing.T) {
	b := workspace(t, map[string][]string{"model": family})
	many := strings.Repeat("A&", 998) + "A" // 999 names, and the node above them
	answers(t, b,
		is("set s "+many, "ok"), is("count s", "4"), is("set s "+many+"&A", "error 4"),
		is("set s "+strings.Repeat("!", 63)+"A", "ok"), is("count s", "4"), is("set s "+strings.Repeat("!", 64)+"A", "error 4"),
		is("set s "+strings.Repeat("(", 30000)+"B"+strings.Repeat(")", 30000), "ok"), is("count s", "4"),
		is("set s "+strings.Repeat(" ", 70000)+"B", "error 4"), // the rest of the line is too long
	)
}

// A set is that of its formula over the names of the model, whatever that is then.
func TestSetsFollowTheModel(t *testing.T) {
	b := workspace(t, map[string][]string{})
	answers(t, b, is("set s B => C", "ok"), is("count s", "error 8"))
	put(t, b, "model", family...)
	says(t, b, "list s", "-", "A", "C", "A,C", "B,C", "A,B,C")
	replace(t, b, "model", "root C", "optional C B")
	says(t, b, "list s", "-", "C", "C,B")
	replace(t, b, "model", "root B")
	says(t, b, "count s", "error 6")
}

func TestFuel(t *testing.T) {
	b := workspace(t, map[string][]string{"model": {"root A"}, "main": {"fn main() {", "while (true) { }", "}"}})
	for _, n := range []string{"0", "1", "999", "1001", "1048576"} {
		answers(t, b, is("fuel "+n, "ok"), is("run A", "fuel "+n), is("runs valid", "1 A fuel "+n))
	}
	ok(t, b, "fuel 3")
	for _, n := range []string{"-1", "1048577", "4294967296", "4294967299", "9223372036854775807", "-9223372036854775808"} {
		says(t, b, "fuel "+n, "error 3")
	}
	for _, n := range append(noNumbers, "1 2") {
		says(t, b, "fuel "+n, "error 4")
	}
	answers(t, b, is("fuel", "error 4"), is("run A", "fuel 3"))
}

// noNumbers are words that are no numbers.
var noNumbers = []string{
	"x", "-", "+1", "01", "-0", "00", "-01", "1.0", "1e3", "0x1", "1_000", "١", "9223372036854775808", "-9223372036854775809",
	"99999999999999999999", "--1", "1-", "1,2", "\t1",
}

func TestNumbers(t *testing.T) {
	b := workspace(t, map[string][]string{"model": family, "main": {"fn main() { print read; print read; }"}, "edit": {"x"}})
	ok(t, b, "keep v")
	for _, n := range []string{"0", "1", "-1", "10", "9223372036854775807", "-9223372036854775808"} {
		answers(t, b, is("run A "+n, "done 2 "+n+" 0"), is("runs all 5 "+n, "8 - done 2 5 "+n), is("causes all "+n))
		says(t, b, "differ v all "+n, "tokens 0", "trees 0", "good 0", "runs 0")
	}
	for _, n := range noNumbers {
		for _, command := range []string{"sample N", "bound N", "run A N", "run A 1 N", "run A N 1", "runs all N", "runs all 1 2 N", "causes all N", "causes all 1 N", "differ v all N", "differ v all 1 N"} {
			says(t, b, strings.ReplaceAll(command, "N", n), "error 4")
		}
	}
}
