package bench_test

import "testing"

func TestSample(t *testing.T) {
	b := workspace(t, map[string][]string{"model": phone})
	answers(t, b,
		is("sample 1", "Phone,Screen,Basic", "Phone,Screen,Gps,Colour"),
		is("sample 2", "Phone,Screen,Basic", "Phone,Screen,Gps,Colour", "Phone,Screen,Colour"), // greedy, not rising
		is("sample 3", "Phone,Screen,Basic", "Phone,Screen,Gps,Colour", "Phone,Screen,Colour"),
		is("bound 1", "+Gps", "+Basic"),
		is("bound 2", "+Phone +Gps", "+Phone +Basic", "-Gps -Basic"),
	)
	replace(t, b, "model", "root A", "optional A B")
	answers(t, b, is("sample 1", "A", "A,B"), is("bound 1", "-B", "+B"), is("bound 2", "+A -B", "+A +B"), is("sample 3"), is("bound 3"))
	replace(t, b, "model", "root A", "require !A")
	answers(t, b, is("sample 1"), is("bound 1"), is("sample 0", "error 3"))
}

// A cube is written in the order of the features, whether they are on or off.
func TestCubes(t *testing.T) {
	b := workspace(t, map[string][]string{"model": {"root A", "optional A B", "optional A C", "require B ^ C"}})
	says(t, b, "bound 3", "+A +B -C", "+A -B +C")
	put(t, b, "main", "fn main() {", "#if !A && B && !C", "print 1 / read;", "#endif", "}")
	says(t, b, "causes all", "-A +B -C")
}

func TestSampleErrors(t *testing.T) {
	b := workspace(t, map[string][]string{"model": phone})
	for _, n := range []string{"0", "4", "-1", "4294967297", "9223372036854775807", "-9223372036854775808"} {
		answers(t, b, is("sample "+n, "error 3"), is("bound "+n, "error 3"))
	}
	answers(t, b,
		is("sample", "error 4"), is("bound", "error 4"), is("sample 1 1", "error 4"), is("bound 1 1", "error 4"), is("sample all", "error 4"), is("bound all", "error 4"),
	)
	replace(t, b, "model", wide()...)
	answers(t, b, is("sample 1", "error 5"), is("sample 4", "error 3"), is("bound 1", "-F1", "+F1"))
}
