package bench_test

import (
	"strings"
	"testing"

	"motley/bench"
)

// P11.1

func TestNewIsEmpty(t *testing.T) {
	for range 2 {
		b := bench.New()
		answers(t, b,
			is("docs"), is("versions"),
			is("show model", "error 8"), is("model", "error 8"), is("undo", "error 8"), is("change v", "error 8"),
		)
		put(t, b, "model", family...)
		answers(t, b, is("undo", "error 8"), is("count s", "error 6"), is("good all", "error 8"), is("lift all A", "error 8"))
		put(t, b, "main", "fn main() { while (true) { } }")
		says(t, b, "run A", "fuel 1000") // the fuel of a new workspace
	}
}

func TestNewIsOfItsOwn(t *testing.T) {
	a, b := bench.New(), bench.New()
	put(t, a, "model", family...)
	ok(t, a, "fuel 7", "keep v", "set s A", "+ B")
	answers(t, b, is("docs"), is("versions"), is("model", "error 8"))
	put(t, b, "model", "root A")
	answers(t, b, is("count s", "error 6"), is("undo", "error 8"), is("count all", "2"))
	answers(t, a, is("count all", "8"), is("undo", "+ B"))
}

func TestLinesThatAreNoCommands(t *testing.T) {
	b, made := bench.New(), *bench.New()
	for _, line := range []string{"", " ", "     ", "#", "# put a b", "#put a b", "   # x", "##", "#\n"} {
		for _, x := range []*bench.Bench{b, nil, new(bench.Bench), &made} {
			if got := x.Do(line); got != "" {
				t.Errorf("Do(%q): %q", line, got)
			}
		}
	}
	says(t, b, "docs")
}

func TestWords(t *testing.T) {
	b := bench.New()
	answers(t, b,
		is("   put   a   x", "ok"), is(" docs  ", "a"), is("show    a   ", "  x"),
		is("docs\t", "error 4"), is("\tdocs", "error 4"), is("show\ta", "error 4"), is("show a\t", "error 6"),
		is("docs\n", "error 4"), is("\n# x", "error 4"), is("docs #", "error 4"), is("show #", "error 6"),
		is("Docs", "error 4"), is("DOCS", "error 4"), is("doc", "error 4"), is("docs\x00", "error 4"), is("\u00a0docs", "error 4"),
		is("\xff", "error 4"), is("++", "error 4"), is("+a", "error 4"),
	)
}

func TestLineFeedIsAByte(t *testing.T) {
	b := bench.New()
	answers(t, b, is("put a x\ndocs", "ok"), is("docs", "a"), is("show a", "x", "docs"), is("put a\nb x", "error 6"), is("put a \n", "ok"), is("show a", "x", "docs", "", ""))
	put(t, b, "model", "root A\noptional A B\n", "require B")
	says(t, b, "list valid", "A,B")
	ok(t, b, "put main fn main() {\nprint 7;", "put main }")
	answers(t, b, is("derive A", "fn main ( ) {", "print 7 ;", "}"), is("set s A\n", "error 4"))
}

func TestWorkspacesThatNewDidNotReturn(t *testing.T) {
	original := bench.New()
	put(t, original, "model", family...)
	copied := *original
	for _, b := range []*bench.Bench{nil, {}, new(bench.Bench), &copied} {
		for _, line := range []string{"docs", "put a b", "put model root A", "model", "what", "put", "fuel -1", "put $ x", "versions"} {
			says(t, b, line, "error 1")
		}
	}
	says(t, original, "docs", "model")
}

// P11.2

func TestRun(t *testing.T) {
	for _, x := range []struct{ script, want string }{
		{"", ""},
		{"\n", ""},
		{"\n\n  \n# x\n", ""},
		{"docs", ""},
		{"what", "error 4\n"},
		{"what\n", "error 4\n"},
		{"what\n\nwhat", "error 4\nerror 4\n"},
		{"put a x\nshow a", "ok\nx\n"},
		{"put a x\nshow a\n", "ok\nx\n"},
		{"put a x\r\nshow a\nput a \nput a\nshow a", "ok\nx\r\nok\nok\nx\r\n\n\n"},
		{"put a x\n# docs\nwhat\ndocs\ndrop a\ndocs\nshow a\n", "ok\nerror 4\na\nok\nerror 8\n"},
	} {
		for range 2 { // each time in a new workspace
			if got := bench.Run(x.script); got != x.want {
				t.Errorf("Run(%q): %q, want %q", x.script, got, x.want)
			}
		}
	}
}

func TestRunOfManyLines(t *testing.T) {
	const lines = 50000
	script := strings.Repeat("put model # x\n", lines) + "put model root A\ncount all\ndrop model\ndocs"
	if got, want := bench.Run(script), strings.Repeat("ok\n", lines+1)+"2\nok\n"; got != want {
		t.Errorf("Run: %d bytes, want %d", len(got), len(want))
	}
}
