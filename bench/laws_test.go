package bench_test

import (
	"slices"
	"strings"
	"testing"

	"motley/api"
	"motley/bench"
	"motley/source"
)

const scripts, turns = 60, 150

// P11.3: each answer is what the layers say.

func TestAnswersAreThoseOfTheLayers(t *testing.T) {
	answered := map[string]int{}
	for seed := range scripts {
		b, p := bench.New(), newPlain()
		lines := script(seed, turns)
		for k, line := range lines {
			got, want := b.Do(line), p.do(line)
			if got != want {
				t.Fatalf("Do(%q): %q, want %q, after\n%s", line, got, want, strings.Join(lines[:k], "\n"))
			}
			if len(p.words) > 0 && !strings.HasPrefix(got, "error ") {
				answered[p.words[0]]++
			}
		}
	}
	for command := range arguments {
		if answered[command] < 10 {
			t.Errorf("%s was answered %d times", command, answered[command])
		}
	}
}

// P11.4: errors change nothing.

func TestErrorsChangeNothing(t *testing.T) {
	for seed := range scripts {
		b, quiet := bench.New(), bench.New()
		lines := script(seed, turns)
		for k, line := range lines {
			got := b.Do(line)
			if strings.HasPrefix(got, "error ") {
				continue
			}
			if want := quiet.Do(line); got != want {
				t.Fatalf("Do(%q): %q, without errors %q, after\n%s", line, got, want, strings.Join(lines[:k], "\n"))
			}
		}
	}
}

// P11.5: questions change nothing.

func TestQuestionsChangeNothing(t *testing.T) {
	changing := strings.Fields("put drop set fuel + - undo keep lift trim")
	for seed := range scripts {
		b, quiet := bench.New(), bench.New()
		lines := script(seed, turns)
		for k, line := range lines {
			got := b.Do(line)
			if words := strings.Fields(line); len(words) == 0 || !slices.Contains(changing, words[0]) {
				if again := b.Do(line); got != again {
					t.Fatalf("Do(%q): %q, and then %q, after\n%s", line, got, again, strings.Join(lines[:k], "\n"))
				}
				continue
			}
			if want := quiet.Do(line); got != want {
				t.Fatalf("Do(%q): %q, without questions %q, after\n%s", line, got, want, strings.Join(lines[:k], "\n"))
			}
		}
		asked := []string{"docs", "versions", "model", "session", "show main", "show edit", "undo", "runs all", "count s", "count t", "differ v all"}
		for _, line := range asked {
			if got, want := b.Do(line), quiet.Do(line); got != want {
				t.Fatalf("Do(%q): %q, without questions %q, after\n%s", line, got, want, strings.Join(lines, "\n"))
			}
		}
	}
}

// P11.6: the answer to a script is that to its beginning, and what follows.

func TestScripts(t *testing.T) {
	for seed := range scripts / 4 {
		lines := script(seed, turns/5)
		b, want := bench.New(), ""
		for k, line := range lines {
			want += b.Do(line)
			if k%7 > 0 && k < len(lines)-1 {
				continue
			}
			beginning := strings.Join(lines[:k+1], "\n")
			for _, s := range []string{beginning, beginning + "\n"} {
				if got := bench.Run(s); got != want {
					t.Fatalf("Run: %q, want %q, for\n%s", got, want, s)
				}
			}
		}
	}
}

// P11.7: a product that is lifted is the edited one; trimmed sources answer as before.

func TestLifted(t *testing.T) {
	lifts, products := 0, []string{"-", "A", "B", "C", "A,B", "A,C", "B,C", "A,B,C"}
	for seed := range scripts {
		b := bench.New()
		for _, line := range script(seed, turns) {
			words := strings.Fields(line)
			if len(words) != 3 || words[0] != "lift" {
				b.Do(line)
				continue
			}
			before, edit := derived(t, b, products), b.Do("show edit")
			inside := inAnyOrder(strings.Split(b.Do("list "+words[1]), "\n"))
			if b.Do(line) != "ok\n" {
				continue
			}
			lifts++
			if got, want := tokens(t, b.Do("derive "+words[2])), tokens(t, edit); got != want {
				t.Fatalf("%s: the tokens %q, want %q", line, got, want)
			}
			for c, after := range derived(t, b, products) {
				if !slices.Contains(inside, c) && after != before[c] {
					t.Fatalf("%s: %s has %q, before it %q", line, c, after, before[c])
				}
			}
		}
	}
	if lifts < 30 {
		t.Errorf("only %d lifts", lifts)
	}
}

// inAnyOrder are configurations, with their names in the order of the alphabet.
func inAnyOrder(l []string) []string {
	for k, c := range l {
		names := strings.Split(c, ",")
		slices.Sort(names)
		l[k] = strings.Join(names, ",")
	}
	return l
}

// derived are the tokens of products, by their configurations.
func derived(t *testing.T, b *bench.Bench, configurations []string) map[string]string {
	t.Helper()
	products := map[string]string{}
	for _, c := range configurations {
		products[c] = tokens(t, b.Do("derive "+c))
	}
	return products
}

func TestTrimmed(t *testing.T) {
	trims := 0
	for seed := range scripts {
		b := bench.New()
		for _, line := range script(seed, turns) {
			words := strings.Fields(line)
			if len(words) != 2 || words[0] != "trim" {
				b.Do(line)
				continue
			}
			asked := []string{"diags " + words[1], "good " + words[1], "runs " + words[1], "runs " + words[1] + " 1 2"}
			before := replies(b, asked...)
			if b.Do(line) != "ok\n" {
				continue
			}
			trims++
			if after := replies(b, asked...); !slices.Equal(before, after) {
				t.Fatalf("%s: %q, before it %q", line, after, before)
			}
		}
	}
	if trims < 20 {
		t.Errorf("only %d trims", trims)
	}
}

func replies(b *bench.Bench, commands ...string) []string {
	var l []string
	for _, s := range commands {
		l = append(l, b.Do(s))
	}
	return l
}

// tokens are those of lines, with a blank behind each.
func tokens(t *testing.T, lines string) string {
	t.Helper()
	s := ""
	for line := range strings.Lines(lines) {
		l, e := source.Lex(strings.TrimSuffix(line, "\n"))
		if e != api.OK {
			t.Fatalf("Lex(%q): %v", line, e)
		}
		for _, x := range l {
			s += x.Text + " "
		}
	}
	return s
}
