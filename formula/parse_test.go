package formula_test

import (
	"strings"
	"testing"

	"motley/api"
	"motley/formula"
)

// P2.1

func wantParsed(t *testing.T, text string, want api.Expr) {
	t.Helper()
	if e, at, err := formula.Parse(text); err != api.OK || at != 0 || !equal(e, want) {
		t.Errorf("Parse(%.60q): %v, %d, %v, want %v", text, e, at, err, want)
	}
}

func wantWrong(t *testing.T, text string, want int, code api.Errno) {
	t.Helper()
	if e, at, err := formula.Parse(text); err != code || at != want || !equal(e, api.Expr{}) {
		t.Errorf("Parse(%.60q) of %d bytes: %v, at %d, %v, want at %d, %v", text, len(text), e, at, err, want, code)
	}
}

func TestParse(t *testing.T) {
	a, b, c, d := name("a"), name("b"), name("c"), name("d")
	not := func(e api.Expr) api.Expr { return node(api.OpNot, e) }
	for text, want := range map[string]api.Expr{
		"0":                  node(api.OpFalse),
		"1":                  node(api.OpTrue),
		"a":                  a,
		"   a  ":             a,
		"((a))":              a,
		"( (a ) )":           a,
		"!a":                 not(a),
		"! ! a":              not(not(a)),
		"!(a&b)":             not(node(api.OpAnd, a, b)),
		"!a&b":               node(api.OpAnd, not(a), b),
		"a & b & (c & d)":    node(api.OpAnd, a, b, node(api.OpAnd, c, d)),
		"(a & b) & c":        node(api.OpAnd, node(api.OpAnd, a, b), c),
		"a&b&c&d":            node(api.OpAnd, a, b, c, d),
		"a|b|c|d":            node(api.OpOr, a, b, c, d),
		"a^b^c^d":            node(api.OpXor, a, b, c, d),
		"a|b^c&d":            node(api.OpOr, a, node(api.OpXor, b, node(api.OpAnd, c, d))),
		"a&b^c|d":            node(api.OpOr, node(api.OpXor, node(api.OpAnd, a, b), c), d),
		"a=>b=>c":            node(api.OpImplies, a, node(api.OpImplies, b, c)),
		"(a=>b)=>c":          node(api.OpImplies, node(api.OpImplies, a, b), c),
		"a|b=>c|d":           node(api.OpImplies, node(api.OpOr, a, b), node(api.OpOr, c, d)),
		"a<=>b":              node(api.OpSame, a, b),
		"a=>b<=>c=>d":        node(api.OpSame, node(api.OpImplies, a, b), node(api.OpImplies, c, d)),
		"a <=> (b <=> c)":    node(api.OpSame, a, node(api.OpSame, b, c)),
		"a?b:c":              node(api.OpChoice, a, b, c),
		"a ? b : c ? d : 0":  node(api.OpChoice, a, b, node(api.OpChoice, c, d, node(api.OpFalse))),
		"a ? b ? c : d : 1":  node(api.OpChoice, a, node(api.OpChoice, b, c, d), node(api.OpTrue)),
		"(a ? b : c) ? d:a":  node(api.OpChoice, node(api.OpChoice, a, b, c), d, a),
		"a<=>b ? c<=>d : !a": node(api.OpChoice, node(api.OpSame, a, b), node(api.OpSame, c, d), not(a)),
		"_":                  name("_"),
		"a1_":                name("a1_"),
		"_01":                name("_01"),
		"Zz09_":              name("Zz09_"),
		"0&1":                node(api.OpAnd, node(api.OpFalse), node(api.OpTrue)),
		"a&a":                node(api.OpAnd, a, a),
	} {
		wantParsed(t, text, want)
	}
}

// loose writes a formula with ( ) around everything, and with blanks of any number.
func (d *dice) loose(e api.Expr) string {
	blanks := func() string { return strings.Repeat(" ", d.roll(3)) }
	signs := map[uint8]string{api.OpAnd: "&", api.OpOr: "|", api.OpXor: "^", api.OpImplies: "=>", api.OpSame: "<=>"}
	var s string
	switch e.Op {
	case api.OpFalse:
		s = "0"
	case api.OpTrue:
		s = "1"
	case api.OpName:
		s = e.Name
	case api.OpNot:
		s = "!" + blanks() + d.loose(e.Kids[0])
	case api.OpChoice:
		s = d.loose(e.Kids[0]) + "?" + d.loose(e.Kids[1]) + ":" + d.loose(e.Kids[2])
	default:
		for k, kid := range e.Kids {
			if k > 0 {
				s += signs[e.Op]
			}
			s += d.loose(kid)
		}
	}
	return blanks() + "(" + blanks() + s + blanks() + ")" + blanks()
}

func TestParseWithNeedlessSigns(t *testing.T) {
	d := dice(5)
	for _, e := range trees(300, someNames(8)) {
		wantParsed(t, d.loose(e), e)
	}
}

func TestParseWrongTexts(t *testing.T) {
	long := strings.Repeat("n", 33)
	for text, want := range map[string]int{
		"":                      0,
		"   ":                   3,
		"a & ":                  4,
		"a &":                   3,
		"!":                     1,
		"(":                     1,
		"(a":                    2,
		"(a  ":                  4,
		"a ? b":                 5,
		"a ? b :":               7,
		"a => b => ":            10,
		"2":                     0,
		"a b":                   2,
		"a b @":                 2,
		"a @ b b":               2,
		"a & @":                 4,
		"a )":                   2,
		")":                     0,
		"()":                    1,
		"(a))":                  3,
		"a <=> b <=> c":         8,
		"a <=> b => c <=> d":    13,
		"a ? b : c : d":         10,
		"a ? b ? c : d":         13,
		"(a ? b)":               6,
		"a : b":                 2,
		"a !b":                  2,
		"a & & b":               4,
		"a & | b":               4,
		"& a":                   0,
		"a = b":                 2,
		"a == b":                2,
		"a =":                   2,
		"a < b":                 2,
		"a <= b":                2,
		"a <=":                  2,
		"a <==> b":              2,
		"a >":                   2,
		"a = > b":               2,
		"a => > b":              5,
		"a\tb":                  1,
		"a\n":                   1,
		"a && b":                3,
		"a || b":                3,
		"a 0":                   2,
		"00":                    0,
		"01":                    0,
		"10":                    0,
		"a & 2b":                4,
		"a & 1_":                4,
		"0x | a":                0,
		"a | " + long:           4,
		long + " b":             0,
		"a " + long:             2,
		"a | b" + long[1:]:      4,
		"a\x00":                 1,
		"\xc3\xa4":              0,
		"a\xc3\xa4":             1,
		"a - b":                 2,
		"((((a) & (b)) | c)":    18,
		"a ? (b : c)":           7,
		"(a => b) <=> (c => d ": 21,
	} {
		wantWrong(t, text, want, api.ErrForm)
	}
}

// Every byte, as a text of its own and behind a name.
func TestParseBytes(t *testing.T) {
	for b := range 256 {
		s := string([]byte{byte(b)})
		letter := strings.Contains("ABCDEFGHIJKLMNOPQRSTUVWXYZabcdefghijklmnopqrstuvwxyz_", s)
		switch {
		case s == "0" || s == "1":
			wantParsed(t, s, constant(s == "1"))
		case letter:
			wantParsed(t, s, name(s))
		case s == "!" || s == "(" || s == " ":
			wantWrong(t, s, 1, api.ErrForm)
		default:
			wantWrong(t, s, 0, api.ErrForm)
		}
		switch {
		case letter || '0' <= b && b <= '9':
			wantParsed(t, "n"+s, name("n"+s))
		case s == " ":
			wantParsed(t, "n"+s, name("n"))
		case strings.Contains("&^|?", s):
			wantWrong(t, "n"+s, 2, api.ErrForm)
		default:
			wantWrong(t, "n"+s, 1, api.ErrForm)
		}
	}
}

func TestParseLimits(t *testing.T) {
	const most = api.MaxFormula
	word := strings.Repeat("w", 32)
	half := most/2 - 1
	wantParsed(t, word, name(word))
	wantParsed(t, strings.Repeat(" ", most-1)+"a", name("a"))
	wantParsed(t, "a"+strings.Repeat(" ", most-1), name("a"))
	wantParsed(t, strings.Repeat("(", half)+"a"+strings.Repeat(")", half), name("a"))
	wantWrong(t, strings.Repeat("(", most), most, api.ErrForm)
	wantWrong(t, strings.Repeat("(", most-1)+")", most-1, api.ErrForm)
	wantWrong(t, strings.Repeat("!", most), most, api.ErrForm)
	wantWrong(t, strings.Repeat("!", most-1)+"a", most, api.ErrLimit)
	wantWrong(t, strings.Repeat("a?", most/2), most, api.ErrForm)
	wantWrong(t, strings.Repeat(" ", most)+"a", most, api.ErrLimit)
	wantWrong(t, strings.Repeat("@", most+1), most, api.ErrLimit)
	wantWrong(t, strings.Repeat("a", most+1), most, api.ErrLimit)
	wantWrong(t, strings.Repeat("a", most), 0, api.ErrForm)

	wantParsed(t, strings.Repeat("!", 63)+"a", tower(63))
	wantWrong(t, strings.Repeat("!", 64)+"a", 65, api.ErrLimit)
	wantWrong(t, strings.Repeat("!", 64)+"a  ", 67, api.ErrLimit)
	wantWrong(t, strings.Repeat("!", 64)+"a b", 66, api.ErrForm)
	wantParsed(t, "a"+strings.Repeat("&a", 998), wide(999))
	wantWrong(t, "a"+strings.Repeat("&a", 999), 1999, api.ErrLimit)
	wantWrong(t, "a"+strings.Repeat(" & a", 999)+" ", 3998, api.ErrLimit)
	wantWrong(t, "a"+strings.Repeat("&a", 2000)+"&", 4002, api.ErrForm)
	wantWrong(t, "a"+strings.Repeat("=>a", 63)+"=>a", 193, api.ErrLimit)
	if _, _, err := formula.Parse("a" + strings.Repeat("=>a", 63)); err != api.OK {
		t.Errorf("Parse of 64 levels: %v", err)
	}
}

// spans tells for parts of a list of tokens whether the grammar has them, rule by rule as the chapter writes it.
type spans struct {
	tokens []string
	known  map[span]bool
}

type span struct {
	rule     string
	from, to int
}

func (s spans) is(rule string, from, to int) bool {
	if from >= to {
		return false
	}
	k := span{rule, from, to}
	got, known := s.known[k]
	if !known {
		got = s.find(rule, from, to)
		s.known[k] = got
	}
	return got
}

func (s spans) find(rule string, from, to int) bool {
	switch rule {
	case "choice":
		return s.is("same", from, to) || s.cut(from, to, "?", func(k int) bool {
			return s.is("same", from, k) && s.cut(k+1, to, ":", func(n int) bool {
				return s.is("choice", k+1, n) && s.is("choice", n+1, to)
			})
		})
	case "same":
		return s.is("implies", from, to) || s.two("implies", "<=>", "implies", from, to)
	case "implies":
		return s.is("or", from, to) || s.two("or", "=>", "implies", from, to)
	case "or":
		return s.is("xor", from, to) || s.two("or", "|", "xor", from, to)
	case "xor":
		return s.is("and", from, to) || s.two("xor", "^", "and", from, to)
	case "and":
		return s.is("not", from, to) || s.two("and", "&", "not", from, to)
	case "not":
		return s.tokens[from] == "!" && s.is("not", from+1, to) || s.is("least", from, to)
	}
	if to-from == 1 {
		return strings.Contains("01ab", s.tokens[from])
	}
	return s.tokens[from] == "(" && s.tokens[to-1] == ")" && s.is("choice", from+1, to-1)
}

func (s spans) cut(from, to int, sign string, fits func(k int) bool) bool {
	for k := from; k < to; k++ {
		if s.tokens[k] == sign && fits(k) {
			return true
		}
	}
	return false
}

func (s spans) two(first, sign, second string, from, to int) bool {
	return s.cut(from, to, sign, func(k int) bool { return s.is(first, from, k) && s.is(second, k+1, to) })
}

func isFormula(tokens []string) bool {
	return spans{tokens, map[span]bool{}}.is("choice", 0, len(tokens))
}

// canGoOn reports whether a formula begins with these tokens: if one does, then also one that has at most an operand,
// and then closes all that is open.
func canGoOn(tokens []string) bool {
	var open []string
	for _, s := range tokens {
		switch s {
		case "(", "?":
			open = append(open, s)
		case ")", ":":
			if len(open) > 0 {
				open = open[:len(open)-1]
			}
		}
	}
	var end []string
	for k := range open {
		if open[len(open)-1-k] == "(" {
			end = append(end, ")")
		} else {
			end = append(end, ":", "a")
		}
	}
	whole := append(tokens[:len(tokens):len(tokens)], end...)
	withOperand := append(append(tokens[:len(tokens):len(tokens)], "a"), end...)
	return isFormula(whole) || isFormula(withOperand)
}

func TestParseAnyTokens(t *testing.T) {
	all := []string{"!", "&", "^", "|", "=>", "<=>", "?", ":", "(", ")", "a", "b", "0", "1", "a", "b", "("}
	d := dice(1234567)
	for range 20_000 {
		var tokens []string
		for range d.roll(9) {
			tokens = append(tokens, all[d.roll(len(all))])
		}
		text, at := "", -1
		for k, s := range tokens {
			text += strings.Repeat(" ", 1+d.roll(2))
			if at < 0 && !canGoOn(tokens[:k+1]) {
				at = len(text)
			}
			text += s
		}
		if isFormula(tokens) {
			if _, place, err := formula.Parse(text); err != api.OK || place != 0 {
				t.Errorf("Parse(%q): at %d, %v", text, place, err)
			}
			continue
		}
		if at < 0 {
			at = len(text)
		}
		wantWrong(t, text, at, api.ErrForm)
	}
}
