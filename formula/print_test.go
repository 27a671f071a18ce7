package formula_test

import (
	"slices"
	"strings"
	"testing"

	"motley/api"
	"motley/formula"
)

// P2.2

func TestPrint(t *testing.T) {
	a, b, c := name("a"), name("b"), name("c")
	for want, e := range map[string]api.Expr{
		"0":                                node(api.OpFalse),
		"1":                                node(api.OpTrue),
		"a":                                a,
		"!a":                               node(api.OpNot, a),
		"!0":                               node(api.OpNot, node(api.OpFalse)),
		"a & b & c":                        node(api.OpAnd, a, b, c),
		"a ^ b ^ c":                        node(api.OpXor, a, b, c),
		"a | b | c":                        node(api.OpOr, a, b, c),
		"a => b":                           node(api.OpImplies, a, b),
		"a <=> b":                          node(api.OpSame, a, b),
		"a ? b : c":                        node(api.OpChoice, a, b, c),
		"(a | b) & !!c":                    node(api.OpAnd, node(api.OpOr, a, b), node(api.OpNot, node(api.OpNot, c))),
		"!(a & b)":                         node(api.OpNot, node(api.OpAnd, a, b)),
		"a & (b & c)":                      node(api.OpAnd, a, node(api.OpAnd, b, c)),
		"(a => b) => b => c":               node(api.OpImplies, node(api.OpImplies, a, b), node(api.OpImplies, b, c)),
		"a ? b ? c : a : a ? b : c":        node(api.OpChoice, a, node(api.OpChoice, b, c, a), node(api.OpChoice, a, b, c)),
		"a_1 & " + strings.Repeat("n", 32): node(api.OpAnd, name("a_1"), name(strings.Repeat("n", 32))),
	} {
		if got, err := formula.Print(e); got != want || err != api.OK {
			t.Errorf("Print of %v: %q, %v, want %q", e, got, err, want)
		}
	}
}

// samples are nodes with each operator, and their texts.
func samples() map[uint8]string {
	return map[uint8]string{
		api.OpFalse: "0", api.OpTrue: "1", api.OpName: "p", api.OpNot: "!p", api.OpAnd: "p & q", api.OpOr: "p | q",
		api.OpXor: "p ^ q", api.OpImplies: "p => q", api.OpSame: "p <=> q", api.OpChoice: "p ? q : r",
	}
}

func sample(op uint8) api.Expr {
	if op == api.OpName {
		return name("p")
	}
	return node(op, []api.Expr{name("p"), name("q"), name("r")}[:arities[op][0]]...)
}

// Every operator at every place below every other one.
func TestPrintTable(t *testing.T) {
	weak := func(from uint8) []uint8 { // the operators of a line of the chapter's table
		l := []uint8{api.OpAnd, api.OpXor, api.OpOr, api.OpImplies, api.OpSame, api.OpChoice}
		return l[slices.Index(l, from):]
	}
	texts := samples()
	for _, x := range []struct {
		parent        uint8
		before, after string
		place, kids   int
		inside        []uint8
	}{
		{api.OpNot, "!", "", 0, 1, weak(api.OpAnd)},
		{api.OpAnd, "", " & x", 0, 2, weak(api.OpAnd)},
		{api.OpAnd, "x & ", " & x", 1, 3, weak(api.OpAnd)},
		{api.OpXor, "", " ^ x", 0, 2, weak(api.OpXor)},
		{api.OpXor, "x ^ x ^ ", "", 2, 3, weak(api.OpXor)},
		{api.OpOr, "", " | x", 0, 2, weak(api.OpOr)},
		{api.OpOr, "x | ", "", 1, 2, weak(api.OpOr)},
		{api.OpImplies, "", " => x", 0, 2, weak(api.OpImplies)},
		{api.OpImplies, "x => ", "", 1, 2, weak(api.OpSame)},
		{api.OpSame, "", " <=> x", 0, 2, weak(api.OpSame)},
		{api.OpSame, "x <=> ", "", 1, 2, weak(api.OpSame)},
		{api.OpChoice, "", " ? x : x", 0, 3, weak(api.OpChoice)},
		{api.OpChoice, "x ? ", " : x", 1, 3, nil},
		{api.OpChoice, "x ? x : ", "", 2, 3, nil},
	} {
		for op := api.OpFalse; op <= api.OpChoice; op++ {
			e := node(x.parent, slices.Repeat([]api.Expr{name("x")}, x.kids)...)
			e.Kids[x.place] = sample(op)
			want := x.before + texts[op] + x.after
			if slices.Contains(x.inside, op) {
				want = x.before + "(" + texts[op] + ")" + x.after
			}
			if got, err := formula.Print(e); got != want || err != api.OK {
				t.Errorf("Print: %q, %v, want %q", got, err, want)
			}
		}
	}
}

func TestPrintErrors(t *testing.T) {
	for _, e := range []api.Expr{
		{}, {Op: 11}, {Op: 255}, {Op: api.OpName}, name("1"), name("a b"), node(api.OpNot), node(api.OpAnd, name("a")),
		{Op: api.OpTrue, Name: "a"}, node(api.OpNot, node(api.OpOr, name("a"), name(""))), wide(1000), tower(64),
	} {
		if s, err := formula.Print(e); s != "" || err != api.ErrArg {
			t.Errorf("Print of %.80v: %q, %v", e, s, err)
		}
	}
}

// P2.15

func TestPrintedAndRead(t *testing.T) {
	d := dice(99)
	names := someNames(8)
	for _, e := range append(trees(1000, names), wide(999), tower(63), d.tree(64, names[:1])) {
		if !formula.Valid(e) {
			continue
		}
		text, err := formula.Print(e)
		if err != api.OK {
			t.Errorf("Print of %v: %v", e, err)
		}
		wantParsed(t, text, e)
	}
}

func TestReadCanBePrinted(t *testing.T) {
	for _, text := range []string{"a&(b&c)", "((a))", "!(!(a))", "a?(b?0:1):(c)", "(a<=>b)<=>c", "a=>(b=>c)", "(a|b)|c"} {
		e, _, err := formula.Parse(text)
		if err != api.OK {
			t.Errorf("Parse(%q): %v", text, err)
		}
		s, err := formula.Print(e)
		if err != api.OK {
			t.Errorf("Print of what Parse(%q) returns: %v", text, err)
		}
		wantParsed(t, s, e)
	}
}
