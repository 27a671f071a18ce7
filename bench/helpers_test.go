package bench_test

import (
	"slices"
	"strings"
	"testing"

	"motley/bench"
)

// phone is a model with groups, an attribute, a requirement and a limit; family is one with the products 1, 5 and 7.
var (
	phone = []string{
		"root Phone", "mandatory Phone Screen", "optional Phone Gps", "member Screen Basic", "member Screen Colour",
		"group Screen 1 1 Basic Colour", "attribute price", "value price Colour 20", "value price Gps 7",
		"require Gps => Colour", "limit price <= 30",
	}
	family  = []string{"root A", "optional A B", "optional A C", "require B => C"}
	divides = []string{"fn main() {", "#ifdef B", "print 1;", "#else", "print 2 / read;", "#endif", "}"}
)

// workspace is one with these documents: a name, and the lines.
func workspace(t testing.TB, documents map[string][]string) *bench.Bench {
	t.Helper()
	b := bench.New()
	for name, lines := range documents {
		put(t, b, name, lines...)
	}
	return b
}

// put adds lines to a document.
func put(t testing.TB, b *bench.Bench, name string, lines ...string) {
	t.Helper()
	for _, line := range lines {
		ok(t, b, "put "+name+" "+line)
	}
}

// replace gives a document other lines.
func replace(t testing.TB, b *bench.Bench, name string, lines ...string) {
	t.Helper()
	b.Do("drop " + name)
	put(t, b, name, lines...)
}

// ok does commands that have nothing to say.
func ok(t testing.TB, b *bench.Bench, commands ...string) {
	t.Helper()
	for _, s := range commands {
		says(t, b, s, "ok")
	}
}

// says does a command, and compares its answer with these lines.
func says(t testing.TB, b *bench.Bench, command string, lines ...string) {
	t.Helper()
	if got, want := b.Do(command), text(lines...); got != want {
		t.Errorf("Do(%q): %q, want %q", command, got, want)
	}
}

// text is that of lines.
func text(lines ...string) string {
	var s strings.Builder
	for _, line := range lines {
		s.WriteString(line + "\n")
	}
	return s.String()
}

// answer is a command, and the lines that answer it.
type answer struct {
	command string
	lines   []string
}

func is(command string, lines ...string) answer { return answer{command, lines} }

// answers does commands, and compares their answers.
func answers(t testing.TB, b *bench.Bench, l ...answer) {
	t.Helper()
	for _, a := range l {
		says(t, b, a.command, a.lines...)
	}
}

// dice gives numbers that look like chance, the same ones in each run.
type dice uint64

func newDice(seed int) *dice {
	d := dice(88172645463325252 + 1000003*seed)
	return &d
}

func (d *dice) roll(n int) int {
	*d ^= *d << 13
	*d ^= *d >> 7
	*d ^= *d << 17
	return int(*d >> 1 % dice(n))
}

func pick[T any](d *dice, l ...T) T { return l[d.roll(len(l))] }

// some are a few of these, in any order, none of them twice.
func some[T comparable](d *dice, most int, l ...T) []T {
	var picked []T
	for range d.roll(most + 1) {
		if x := pick(d, l...); !slices.Contains(picked, x) {
			picked = append(picked, x)
		}
	}
	return picked
}
