package evolve_test

import (
	"testing"

	"motley/api"
	"motley/evolve"
	"motley/model"
)

// The examples 7 to 9 of the document.
func TestExample(t *testing.T) {
	m := parsed(t, "root A\noptional A B\noptional A C\nrequire B => C")
	names, b := model.Names(m), has(1)
	valid, _ := model.Diagram(m)
	old := main("fn main() {\n#ifdef B\nprint 1;\n#else\nprint 2 / read;\n#endif\n}\n")
	edited := main("fn main() {\n#if defined(B)\nprint 3 ;\n#endif\n#ifdef B\n#if !(defined(B))\nprint 1;\n#endif\n#else\nprint 2 / read;\n#endif\n}\n")
	lifted, e := evolve.Lift(old, names, b, 7, "fn main() {\nprint 3;\n}")
	if e != api.OK || lifted[0] != edited[0] {
		t.Fatalf("Lift: %q, %v", lifted, e)
	}
	for c, want := range map[uint32]string{1: "print 2 / read ;", 5: "print 2 / read ;", 7: "print 3 ;"} {
		if text, e := evolve.Derive(lifted, names, c); text != "fn main ( ) {\n"+want+"\n}\n" || e != api.OK {
			t.Errorf("Derive of %d: %q, %v", c, text, e)
		}
	}
	only := b.And(valid)
	got, e := evolve.Sources(old, lifted, names, valid, nil, 100)
	if want := (evolve.Report{Tokens: only, Trees: only, Runs: only}); got != want || e != api.OK {
		t.Errorf("Sources: %v, %v", got, e)
	}
	free := parsed(t, "root A\noptional A B\noptional A C")
	c := change(t, m, free)
	if c.Kind != evolve.Generalization || c.Before != 3 || c.After != 4 || c.Both != 3 || c.Lost != 0 || c.Gained != 3 {
		t.Errorf("Compare: %v", c)
	}
	if p, n, e := evolve.Migrate(free, m, 3); p != 1 || n != 1 || e != api.OK {
		t.Errorf("Migrate: %d, %d, %v", p, n, e)
	}
}
