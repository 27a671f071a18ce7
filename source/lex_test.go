package source_test

import (
	"strings"
	"testing"

	"motley/api"
	"motley/source"
)

// P6.1

func TestLex(t *testing.T) {
	name := strings.Repeat("aZ_9", 8)
	for line, want := range map[string]string{
		"":                       "",
		" \t ":                   "",
		"// a & b # \" @":        "",
		"a<=b1 // c":             "1 a|3 <=|1 b1",
		"a<= =b":                 "1 a|3 <=|3 =|1 b",
		"_ __ a_ _1 A9":          "1 _|1 __|1 a_|1 _1|1 A9",
		name + "+":               "1 " + name + "|3 +",
		"0 7 10 2147483647":      "2 0|2 7|2 10|2 2147483647",
		"0+1":                    "2 0|3 +|2 1",
		"===":                    "3 ==|3 =",
		"!==":                    "3 !=|3 =",
		"!!=":                    "3 !|3 !=",
		"<<=>>=":                 "3 <|3 <=|3 >|3 >=",
		"&&||":                   "3 &&|3 ||",
		"+-*/%<> =!(){},;:":      "3 +|3 -|3 *|3 /|3 %|3 <|3 >|3 =|3 !|3 (|3 )|3 {|3 }|3 ,|3 ;|3 :",
		"a/b/ /c/*d":             "1 a|3 /|1 b|3 /|3 /|1 c|3 /|3 *|1 d",
		"a///b":                  "1 a",
		"defined if":             "1 defined|1 if",
		"\ta\t(\tb":              "1 a|3 (|1 b",
		strings.Repeat("1 ", 40): strings.TrimSuffix(strings.Repeat("2 1|", 40), "|"),
	} {
		l, e := source.Lex(line)
		var got []string
		for i, x := range l {
			got = append(got, numbers(int(x.Kind))+" "+x.Text)
			if numbers(x.Path...) != numbers(i) || x.File != 0 || x.Line != 0 || !x.Cond.Full() {
				t.Errorf("Lex(%q): token %d: %v", line, i, x)
			}
		}
		if strings.Join(got, "|") != want || e != api.OK {
			t.Errorf("Lex(%q): %s, %v, want %s", line, strings.Join(got, "|"), e, want)
		}
	}
}

func TestLexErrors(t *testing.T) {
	long := strings.Repeat("a", 33)
	for line, want := range map[string]api.Errno{
		"01": api.ErrForm, "00": api.ErrForm, "1a": api.ErrForm, "1_": api.ErrForm, "0x1": api.ErrForm,
		"2147483648": api.ErrForm, "99999999999999999999999": api.ErrForm, long: api.ErrForm, "1 " + long: api.ErrForm,
		"a & b": api.ErrForm, "a | b": api.ErrForm, "#if": api.ErrForm, "a # b": api.ErrForm, "\"a\"": api.ErrForm,
		"a.b": api.ErrForm, "[": api.ErrForm, "~": api.ErrForm, "'": api.ErrForm, "a$": api.ErrForm, "&&&": api.ErrForm,
		"a\n": api.ErrForm, "a\r": api.ErrForm, "\x00": api.ErrForm, "\x7f": api.ErrForm, "ä": api.ErrForm,
		"// \x1f": api.ErrForm, "a // \x80": api.ErrForm, "a // b\n": api.ErrForm, "//\x7f": api.ErrForm,
		strings.Repeat("a ", 256):                api.OK,
		strings.Repeat("a ", 257):                api.ErrLimit,
		strings.Repeat("a ", 256) + "// a a a":   api.OK,
		strings.Repeat("a ", 300) + "&":          api.ErrForm,
		strings.Repeat("a ", 300) + "// \x80":    api.ErrForm,
		strings.Repeat(";", 257):                 api.ErrLimit,
		strings.Repeat(" ", 100000):              api.OK,
		strings.Repeat("a", 32) + " // \t ~ } #": api.OK,
	} {
		l, e := source.Lex(line)
		if e != want || e != api.OK && len(l) != 0 {
			t.Errorf("Lex(%.40q): %d tokens, %v, want %v", line, len(l), e, want)
		}
	}
}
