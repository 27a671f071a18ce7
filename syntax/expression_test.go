package syntax_test

import (
	"strings"
	"testing"

	"motley/api"
	"motley/syntax"
)

// P7.7

func TestExpression(t *testing.T) {
	for line, want := range map[string]string{
		"1":                 "Number 1@0",
		"  x\t// a comment": "Name x@0",
		"read":              "Read@0",
		"true":              "Bool true@0",
		"f()":               "Call f@0",
		"f(1,-x)*2":         "Binary *@7(0:Call f@0(0:Number 1@2 0:Unary -@4(0:Name x@5)) 1:Number 2@8)",
		"- - x":             "Unary -@0(0:Unary -@1(0:Name x@2))",
		"(1)":               "Number 1@1",
		"1-2-3":             "Binary -@3(0:Binary -@1(0:Number 1@0 1:Number 2@2) 1:Number 3@4)",
		"1-(2-3)":           "Binary -@1(0:Number 1@0 1:Binary -@4(0:Number 2@3 1:Number 3@5))",
		"a||b&&c==d+e*!f":   "Binary ||@1(0:Name a@0 1:Binary &&@3(0:Name b@2 1:Binary ==@5(0:Name c@4 1:Binary +@7(0:Name d@6 1:Binary *@9(0:Name e@8 1:Unary !@10(0:Name f@11))))))",
		"!f*e+d==c&&b||a":   "Binary ||@10(0:Binary &&@8(0:Binary ==@6(0:Binary +@4(0:Binary *@2(0:Unary !@0(0:Name f@1) 1:Name e@3) 1:Name d@5) 1:Name c@7) 1:Name b@9) 1:Name a@11)",
		"-1*2":              "Binary *@2(0:Unary -@0(0:Number 1@1) 1:Number 2@3)",
		"(1<2)<3":           "Binary <@5(0:Binary <@2(0:Number 1@1 1:Number 2@3) 1:Number 3@6)",
		"defined":           "Name defined@0",
		"f(g(),h(1)(":       "",
	} {
		n, e := syntax.Expression(line)
		switch {
		case want == "":
			if e != api.ErrForm {
				t.Errorf("%s: %s, %v", line, shown(n), e)
			}
		case e != api.OK || shown(n) != want || n.Slot != 0 || !universal(syntax.Tree{Kids: []syntax.Node{n}}):
			t.Errorf("%s: %s, %v, want %s", line, shown(n), e, want)
		}
	}
}

func TestExpressionErrors(t *testing.T) {
	width := func(n int) string { return "1" + strings.Repeat("+1", (n-1)/2) + strings.Repeat(" 1", (n-1)%2) }
	for line, want := range map[string]api.Errno{
		"":                             api.ErrForm,
		" // x":                        api.ErrForm,
		"1 < 2 < 3":                    api.ErrForm,
		"1 +":                          api.ErrForm,
		"(1":                           api.ErrForm,
		"1)":                           api.ErrForm,
		"1 2":                          api.ErrForm,
		"f(1,)":                        api.ErrForm,
		"x = 1":                        api.ErrForm,
		"1;":                           api.ErrForm,
		"if":                           api.ErrForm,
		"int":                          api.ErrForm,
		"x(1)(2)":                      api.ErrForm,
		"(x)(2)":                       api.ErrForm,
		"01":                           api.ErrForm,
		"1 & 2":                        api.ErrForm,
		"#":                            api.ErrForm,
		"1\n":                          api.ErrForm,
		"é":                            api.ErrForm,
		strings.Repeat("x", 33):        api.ErrForm,
		width(255):                     api.OK,
		width(256):                     api.ErrForm,
		width(257):                     api.ErrLimit,
		strings.Repeat("- ", 64) + "1": api.OK,
		strings.Repeat("- ", 65) + "1": api.ErrForm,
		strings.Repeat("( ", 64) + "1" + strings.Repeat(" )", 64): api.OK,
		strings.Repeat("( ", 65) + "1" + strings.Repeat(" )", 65): api.ErrForm,
		strings.Repeat("f ( ", 64) + strings.Repeat(" )", 64):     api.OK,
		strings.Repeat("- ", 64) + "f ( )":                        api.ErrForm,
	} {
		n, e := syntax.Expression(line)
		if e != want || e != api.OK && shown(n) != shown(syntax.Node{}) {
			t.Errorf("%q: %s, %v, want %v", line, shown(n), e, want)
		}
	}
}
