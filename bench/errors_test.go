package bench_test

import (
	"slices"
	"strings"
	"testing"

	"motley/bench"
)

// The errors of a command are looked for in the order of the chapter's list; each group has the one that comes first.
func TestOrderOfErrors(t *testing.T) {
	b := bench.New()
	answers(t, b, // 1, before 2 to 8
		is("drop a$ b", "error 4"), is("keep", "error 4"), is("set 9", "error 4"), is("fuel -1 -1", "error 4"), is("run x 1 y", "error 4"),
		is("differ v! x y", "error 4"), is("lift x", "error 4"), is("sample x", "error 4"), is("undo x", "error 4"), is("+ x y", "error 4"),
	)
	answers(t, b, // 2, before 3
		is("set all &", "error 6"), is("set 9 &", "error 6"), is("drop a$", "error 6"), is("show a$", "error 6"), is("change v!", "error 6"), is("differ v! x 1", "error 6"),
	)
	put(t, b, "model", "root A", "root A")
	answers(t, b, // 3, before 4
		is("set s &", "error 4"), is("drop a", "error 8"), is("show a", "error 8"), is("change v", "error 8"), is("differ v x", "error 8"), is("lift x x", "error 8"),
	)
	ok(t, b, "keep v")
	put(t, b, "edit", "x")
	answers(t, b, // 4, before 5 to 8
		is("change v", "error 10"), is("differ v x", "error 10"), is("lift x x", "error 10"), is("count x", "error 10"), is("run x", "error 10"), is("+ x", "error 10"),
		is("undo", "error 10"), is("complete x", "error 10"), is("sample 0", "error 10"), is("trim all", "error 10"),
	)
	replace(t, b, "model", family...)
	ok(t, b, "set u x & A", "set s A")
	answers(t, b, // 5, before 7 and 8; from the left
		is("derive A,A", "error 7"), is("diags x", "error 6"), is("good u", "error 6"), is("run A,A", "error 7"), is("runs u", "error 6"), is("causes u", "error 6"),
		is("differ v x", "error 6"), is("lift x A,A", "error 6"), is("lift s A,A", "error 7"), is("lift s A,x,A", "error 6"), is("lift u A", "error 6"), is("trim u", "error 6"),
		is("list u", "error 6"), is("least x", "error 6"), is("why u", "error 6"), is("count u", "error 6"),
	)
	answers(t, b, // 7, before 8
		is("lift s B", "error 8"), is("differ v all", "error 8"), is("change v", "error 10"),
	)
	put(t, b, "main", "$")
	answers(t, b, is("differ v all", "error 8"), is("lift s B", "error 4"), is("derive A", "error 4"))
	ok(t, b, "+ B")
	replace(t, b, "model", "root A", "require !A")
	answers(t, b, // 6, before 8
		is("+ x", "error 6"), is("- x", "error 6"), is("+ A", "error 9"), is("undo", "error 9"), is("session", "error 9"), is("complete x", "error 9"),
	)
	replace(t, b, "model", "root A")
	answers(t, b, is("+ A", "error 6"), is("undo", "error 6"), is("session", "error 6"), is("complete x", "error 6"))
}

// states are beginnings of scripts, which lead to errors of many kinds.
func states() map[string][]string {
	model := []string{"put model root A", "put model optional A B", "put model attribute p"}
	main := []string{"put main fn main() {", "put main #if B", "put main print 1 / read;", "put main #endif", "put main }"}
	edit := []string{"put edit fn main() {", "put edit print 1;", "put edit }"}
	sets := []string{"set s A", "set u x", "set none 0"}
	whole := join(model, main, edit, sets, []string{"keep v", "+ B"})
	return map[string][]string{
		"nothing":           {},
		"no model":          join(main, edit, sets, []string{"keep v"}),
		"a wrong model":     join([]string{"put model root A", "put model root A"}, main, edit, sets, []string{"keep v"}),
		"a void model":      join(whole, []string{"put model require !A"}),
		"another model":     join(whole, []string{"drop model", "put model root A"}),
		"a wrong version":   join([]string{"put model what", "put main #endif", "keep v", "drop model", "drop main"}, model, main, edit, sets),
		"an empty version":  join([]string{"keep v"}, whole, []string{"undo"}),
		"an old version":    join(model, []string{"put main $", "keep v", "drop main"}, main, edit),
		"no main":           join(model, edit, sets, []string{"keep v"}),
		"main is gone":      join(whole, []string{"drop main"}),
		"a wrong main":      join(whole, []string{"put main #endif"}),
		"no edit":           join(whole, []string{"drop edit"}),
		"a wrong edit":      join(whole, []string{"put edit $"}),
		"everything":        whole,
		"nothing is chosen": join(whole, []string{"undo", "fuel 2"}),
		"all is chosen":     join(whole, []string{"+ A", "put lib x"}),
	}
}

func join(l ...[]string) []string {
	var all []string
	for _, x := range l {
		all = append(all, x...)
	}
	return all
}

// In each state each command is answered as the list of errors says, and changes nothing if it is answered with one.
func TestErrorsInAllStates(t *testing.T) {
	asked := []string{"docs", "versions", "show model", "show main", "show edit", "show lib", "count s", "count u", "run B", "session", "change v", "differ v all"}
	found := map[string]bool{}
	for name, beginning := range states() {
		b, p := begun(beginning)
		before := replies(b, asked...)
		for _, line := range commandsOfAllKinds() {
			got, want := b.Do(line), p.do(line)
			if got != want {
				t.Fatalf("%s: Do(%q): %q, want %q", name, line, got, want)
			}
			found[p.words[0]+" "+got] = true
			if !strings.HasPrefix(got, "error ") {
				b, p = begun(beginning)
			} else if after := replies(b, asked...); !slices.Equal(before, after) {
				t.Fatalf("%s: after %q %q, before it %q", name, line, after, before)
			}
		}
	}
	if len(found) < 150 {
		t.Errorf("only %d answers", len(found))
	}
}

// begun is a workspace in which some commands were done, and one that does what the chapter says.
func begun(lines []string) (*bench.Bench, *plain) {
	b, p := bench.New(), newPlain()
	for _, line := range lines {
		b.Do(line)
		p.do(line)
	}
	return b, p
}

// commandsOfAllKinds have arguments of each kind, right ones and wrong ones.
func commandsOfAllKinds() []string {
	words := map[rune][]string{
		'd': {"main", "a$", "other"}, 'm': {"s", "all", "9"}, 't': {"A", "&"}, 'n': {"1", "-1", "x"}, 'S': {"all", "s", "u", "none", "x"},
		'c': {"A", "B,A", "x", "A,A"}, 'f': {"A", "B", "x"}, 'a': {"p", "q"}, 'V': {"v", "w", "v!"}, '*': {"", "1", "0"},
	}
	lines := []string{"what", "what now"}
	for command, letters := range arguments {
		made := []string{command}
		for _, letter := range letters {
			lines = append(lines, made...) // an argument is missing
			var longer []string
			for _, s := range made {
				for _, word := range words[letter] {
					longer = append(longer, s+" "+word)
				}
			}
			made = longer
		}
		for _, s := range made {
			lines = append(lines, s, s+" x")
		}
	}
	return lines
}
