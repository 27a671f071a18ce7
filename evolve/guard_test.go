package evolve_test

import (
	"strings"
	"testing"

	"motley/api"
	"motley/diagram"
	"motley/evolve"
	"motley/source"
)

// letters are names of features.
var letters = strings.Split("ABCDEFGHIJKLMNOPQRSTUVWX", "")

// wantedGuard is the guard as the chapter defines it.
func wantedGuard(d diagram.D, names []string) string {
	switch {
	case d.Empty():
		return "0"
	case d.Full():
		return "1"
	}
	i := 0
	for d.With(i, true).Same(d.With(i, false)) {
		i++
	}
	x := "defined(" + names[i] + ")"
	h, l := wantedGuard(d.With(i, true), names), wantedGuard(d.With(i, false), names)
	switch {
	case h == "1" && l == "0":
		return x
	case h == "0" && l == "1":
		return "!" + x
	case l == "0":
		return x + " && (" + h + ")"
	case h == "1":
		return x + " || (" + l + ")"
	case h == "0":
		return "!" + x + " && (" + l + ")"
	case l == "1":
		return "!" + x + " || (" + h + ")"
	}
	return x + " && (" + h + ") || !" + x + " && (" + l + ")"
}

// P10.7

func TestGuard(t *testing.T) {
	a, b, c := has(0), has(1), has(2)
	for want, d := range map[string]diagram.D{
		"0":                            none,
		"1":                            all,
		"defined(A)":                   a,
		"!defined(C)":                  c.Not(),
		"defined(A) && (defined(B))":   a.And(b),
		"defined(A) || (defined(B))":   a.Or(b),
		"!defined(A) && (defined(C))":  c.And(a.Not()),
		"!defined(A) || (!defined(C))": a.And(c).Not(),
		"defined(A) && (!defined(B)) || !defined(A) && (defined(B))":                 a.Xor(b),
		"defined(A) && (defined(B) || (defined(C))) || !defined(A) && (defined(B))":  b.Or(a.And(c)),
		"defined(A) || (defined(B) && (!defined(C)) || !defined(B) && (defined(C)))": a.Or(b.Xor(c)),
	} {
		if got, e := evolve.Guard(d, letters[:3]); got != want || e != api.OK {
			t.Errorf("Guard: %q, %v, want %q", got, e, want)
		}
	}
	if got, e := evolve.Guard(has(23).Not(), letters); got != "!defined(X)" || e != api.OK {
		t.Errorf("Guard of the last feature: %q, %v", got, e)
	}
	if got, e := evolve.Guard(a, []string{"defined"}); got != "defined(defined)" || e != api.OK {
		t.Errorf("Guard with the name defined: %q, %v", got, e)
	}
}

func TestGuardErrors(t *testing.T) {
	for want, l := range badNames() {
		for _, names := range l {
			for _, d := range []diagram.D{none, all, has(23)} {
				if g, e := evolve.Guard(d, names); g != "" || e != want {
					t.Errorf("Guard with %q: %q, %v, want %v", names, g, e, want)
				}
			}
		}
	}
	parity := none
	for i := range letters {
		parity = parity.Xor(has(i))
	}
	for want, names := range map[api.Errno][]string{api.ErrLimit: letters, api.ErrArg: letters[:23]} {
		if g, e := evolve.Guard(parity, names); g != "" || e != want {
			t.Errorf("Guard with %d names: %v, want %v", len(names), e, want)
		}
	}
	if g, e := evolve.Guard(has(0), nil); g != "" || e != api.ErrArg {
		t.Errorf("Guard without names: %q, %v", g, e)
	}
	if g, e := evolve.Guard(all, nil); g != "1" || e != api.OK {
		t.Errorf("Guard of everything without names: %q, %v", g, e)
	}
}

// P10.14

func TestGuardIsTrue(t *testing.T) {
	d := newDice()
	for range 500 {
		n := 1 + d.roll(7)
		set := d.someSet(n)
		if d.roll(2) == 0 {
			set = set.And(d.someSet(n)).And(d.someSet(n))
		}
		want := wantedGuard(set, letters)
		guard, e := evolve.Guard(set, letters[:n])
		if length := tokens(want); length > 250 {
			if guard != "" || e != api.ErrLimit {
				t.Fatalf("Guard with %d tokens: %v", length, e)
			}
			continue
		}
		if guard != want || e != api.OK {
			t.Fatalf("Guard: %q, %v, want %q", guard, e, want)
		}
		for _, text := range []string{"#if " + guard, "#if !(" + guard + ")\n#else"} {
			l, e := source.Family(main(text+"\nx\n#endif"), letters[:n], all)
			if e != api.OK || len(l.Diags) > 0 || len(l.Tokens) != 1 && !set.Empty() {
				t.Fatalf("%s: %v, %v", text, l, e)
			}
			if len(l.Tokens) == 1 && !l.Tokens[0].Cond.Same(set) {
				t.Fatalf("%s is true elsewhere", text)
			}
		}
	}
}

// tokens is how many tokens a guard has.
func tokens(guard string) int {
	return len(strings.Fields(strings.NewReplacer("(", " ( ", ")", " ) ", "!", " ! ").Replace(guard)))
}

// longSet is a set whose guard has 148 tokens, 7 more for each of some features, and 8 more for each of some others.
func longSet(sevens, eights int) diagram.D {
	parity := none
	for i := range 4 {
		parity = parity.Xor(has(sevens + eights + i))
	}
	return parity.Not().And(diagram.Cube((1<<sevens-1)<<eights, 1<<eights-1))
}

func TestGuardLimit(t *testing.T) {
	for length, d := range map[int]diagram.D{249: longSet(11, 3), 250: longSet(10, 4), 251: longSet(9, 5), 252: longSet(8, 6)} {
		want := wantedGuard(d, letters)
		if tokens(want) != length {
			t.Fatalf("a guard with %d tokens", tokens(want))
		}
		guard, e := evolve.Guard(d, letters)
		if length <= 250 && (guard != want || e != api.OK) || length > 250 && (guard != "" || e != api.ErrLimit) {
			t.Errorf("Guard with %d tokens: %q, %v", length, guard, e)
		}
	}
}

// A guard with the most tokens still fits into the lines of an edit.
func TestGuardFits(t *testing.T) {
	d := longSet(10, 4)
	c, _ := d.Least()
	guard, _ := evolve.Guard(d, letters)
	l, e := evolve.Lift(main("x"), letters, d, c, "y")
	want := "#if " + guard + "\ny\n#endif\n#if !(" + guard + ")\nx\n#endif\n"
	if e != api.OK || l[0].Text != want {
		t.Errorf("Lift with a long guard: %v, %v", l, e)
	}
	if l, e := evolve.Lift(main("x"), letters, longSet(9, 5), 0, "y"); len(l) != 0 || e != api.ErrArg {
		t.Errorf("Lift for another configuration, with a guard that is too long: %v, %v", l, e)
	}
	other := longSet(9, 5)
	c, _ = other.Least()
	if l, e := evolve.Lift(main("x"), letters, other, c, "x = 01"); len(l) != 0 || e != api.ErrLimit {
		t.Errorf("Lift with a guard that is too long: %v, %v", l, e)
	}
}

func TestDerive(t *testing.T) {
	files := []api.File{
		{Name: "main", Text: "#define TWO(a) a  a\nx=A;//x\n\n#include \"more\"\n#ifdef B\n\tTWO(1)\n#endif\nTWO(TWO(y))"},
		{Name: "more", Text: "+\n-\n#error\n"},
	}
	for c, want := range []string{
		"x = A ;\n+\n-\nTWO ( y ) TWO ( y )\n",
		"x = 1 ;\n+\n-\nTWO ( y ) TWO ( y )\n",
		"x = A ;\n+\n-\n1 1\nTWO ( y ) TWO ( y )\n",
	} {
		want = strings.ReplaceAll(want, "TWO ( y ) TWO ( y )", "y y y y")
		for _, more := range []uint32{0, 1 << 2, 1 << 24, 1 << 31} {
			if text, e := evolve.Derive(files, letters[:2], uint32(c)|more); text != want || e != api.OK {
				t.Errorf("Derive of %b: %q, %v", uint32(c)|more, text, e)
			}
		}
	}
	if text, e := evolve.Derive(main(""), nil, 7); text != "" || e != api.OK {
		t.Errorf("Derive of nothing: %q, %v", text, e)
	}
	long := "#define X " + strings.Repeat("x ", 200) + "\nX X"
	want := strings.TrimSuffix(strings.Repeat("x ", 256), " ") + "\n" + strings.TrimSuffix(strings.Repeat("x ", 144), " ") + "\n"
	if text, e := evolve.Derive(main(long), nil, 0); text != want || e != api.OK {
		t.Errorf("Derive of a long line: %q, %v", text, e)
	}
}

func TestDeriveErrors(t *testing.T) {
	for want, files := range badFiles() {
		if text, e := evolve.Derive(files, letters, 0); text != "" || e != want {
			t.Errorf("Derive: %q, %v, want %v", text, e, want)
		}
	}
	for want, l := range badNames() {
		for _, names := range l {
			if text, e := evolve.Derive(main("x"), names, 0); text != "" || e != want {
				t.Errorf("Derive with %q: %q, %v, want %v", names, text, e, want)
			}
		}
	}
	if text, e := evolve.Derive(main("x"), []string{"defined"}, 0); text != "" || e != api.ErrName {
		t.Errorf("Derive with the name defined: %q, %v", text, e)
	}
}
