package syntax_test

import (
	"strings"
	"testing"

	"motley/api"
	"motley/diagram"
	"motley/source"
	"motley/syntax"
)

// P7.6

func TestPrint(t *testing.T) {
	for _, text := range []string{
		"",
		"var x : int ;\nvar y : bool = true ;\n",
		"fn f ( ) {\n}\nfn g ( a : int ) : int {\nreturn a ;\n}\nfn h ( a : int , b : bool ) : bool {\nreturn ;\n}\n",
		"fn f ( ) {\nvar x : int = read ;\nx = 1 ;\nf ( ) ;\nf ( 1 , g ( x , false ) ) ;\n{\n}\nprint x ;\nassert ! x ;\n}\n",
		"fn f ( ) {\nif ( x ) {\n}\nif ( x ) {\n}\nelse {\ny = 1 ;\n}\n}\n",
		"fn f ( ) {\nif ( x ) {\n}\nelse if ( y ) {\n}\nelse if ( z ) {\n}\nelse {\n{\n}\n}\n}\n",
		"fn f ( ) {\nif ( x ) {\n}\nelse {\nif ( y ) {\n}\n}\n}\n",
		"fn f ( ) {\nwhile ( - x < 1 ) {\nwhile ( true ) {\n}\n}\n}\n",
	} {
		if got, e := syntax.Print(plain(t, text), 0); e != api.OK || got != text {
			t.Errorf("%q: %q, %v", text, got, e)
		}
	}
}

// Only those ( ) remain without which the tree would be another one.
func TestPrintParens(t *testing.T) {
	for text, want := range map[string]string{
		"( ( 1 ) )":                           "1",
		"( 1 - ( 2 - 3 ) ) * 4":               "( 1 - ( 2 - 3 ) ) * 4",
		"( 1 - 2 ) - 3":                       "1 - 2 - 3",
		"1 + ( 2 + 3 )":                       "1 + ( 2 + 3 )",
		"1 + ( 2 * 3 )":                       "1 + 2 * 3",
		"( 1 + 2 ) * 3":                       "( 1 + 2 ) * 3",
		"1 * ( 2 / 3 )":                       "1 * ( 2 / 3 )",
		"( 1 * 2 ) / 3 % 4":                   "1 * 2 / 3 % 4",
		"( 1 < 2 ) < 3":                       "( 1 < 2 ) < 3",
		"1 < ( 2 < 3 )":                       "1 < ( 2 < 3 )",
		"( 1 == 2 ) != ( 3 >= 4 )":            "( 1 == 2 ) != ( 3 >= 4 )",
		"( 1 + 2 ) < ( 3 * 4 )":               "1 + 2 < 3 * 4",
		"( a || b ) && c || ( d && e )":       "( a || b ) && c || d && e",
		"a || ( b || c )":                     "a || ( b || c )",
		"( a && b ) && ( c && d )":            "a && b && ( c && d )",
		"( a < b ) && ( c == d )":             "a < b && c == d",
		"( a && b ) < c":                      "( a && b ) < c",
		"- ( 1 + 2 )":                         "- ( 1 + 2 )",
		"- ( x )":                             "- x",
		"! ( - ( x ) )":                       "! - x",
		"( - 1 ) + ( - 2 )":                   "- 1 + - 2",
		"( - 1 ) * 2":                         "- 1 * 2",
		"f ( ( 1 + 2 ) , ( x ) ) * ( f ( ) )": "f ( 1 + 2 , x ) * f ( )",
		"- f ( ( 1 ) )":                       "- f ( 1 )",
	} {
		got, e := syntax.Print(plain(t, "var x : int = "+text+" ;"), 0)
		if e != api.OK || got != "var x : int = "+want+" ;\n" {
			t.Errorf("%s: %q, %v", text, got, e)
		}
		x := "fn f ( ) { if ( " + text + " ) { } print " + text + " ; x = " + text + " ; return " + text + " ; f ( " + text + " ) ; }"
		want := "fn f ( ) {\nif ( " + want + " ) {\n}\nprint " + want + " ;\nx = " + want + " ;\nreturn " + want + " ;\nf ( " + want + " ) ;\n}\n"
		if got, e := syntax.Print(plain(t, x), 0); e != api.OK || got != want {
			t.Errorf("%s: %q, %v", x, got, e)
		}
	}
}

// A line has at most MaxWidth tokens.
func TestPrintWidth(t *testing.T) {
	const begin = "var x : int = 1 " // 6 tokens
	for _, n := range []int{api.MaxWidth - 2, api.MaxWidth - 1, api.MaxWidth, 3 * api.MaxWidth} {
		text := strings.Fields(begin + strings.Repeat("+ 1 ", (n-6)/2))
		if len(text) < n {
			text = append([]string{"var", "x", ":", "int", "=", "-", "1"}, text[6:]...)
		}
		text = append(text, ";")
		want := ""
		for k, word := range text {
			switch {
			case word == ";" || (k+1)%api.MaxWidth == 0:
				want += word + "\n"
			default:
				want += word + " "
			}
		}
		if got, e := syntax.Print(plain(t, strings.Join(text, " ")), 0); e != api.OK || got != want {
			t.Errorf("%d tokens: %q, %v, want %q", len(text), got, e, want)
		}
	}
}

func TestPrintOfConfigurations(t *testing.T) {
	x := parsed(t, "fn main ( ) { [a print 1 [b + 2 ] ; ] [A [b } ] [B print 2 ; ] ] }")
	for c, want := range map[uint32]string{
		0:                "fn main ( ) {\nprint 2 ;\n}\n",
		1:                "fn main ( ) {\nprint 1 ;\n}\n",
		3:                "fn main ( ) {\nprint 1 + 2 ;\n}\n",
		1 | 1<<24 | 1<<5: "fn main ( ) {\nprint 1 ;\n}\n",
	} {
		if got, e := syntax.Print(x, c); e != api.OK || got != want {
			t.Errorf("%b: %q, %v", c, got, e)
		}
	}
	if got, e := syntax.Print(x, 2); e != api.ErrNone || got != "" {
		t.Errorf("a configuration with an error: %q, %v", got, e)
	}
	if got, e := syntax.Print(syntax.Tree{}, 0); e != api.ErrNone || got != "" {
		t.Errorf("an empty tree: %q, %v", got, e)
	}
	// That the tree is not valid comes before that there is no program.
	if got, e := syntax.Print(syntax.Tree{Diags: []syntax.Diag{{}}}, 0); e != api.ErrArg || got != "" {
		t.Errorf("a tree that is not valid: %q, %v", got, e)
	}
}

// reread is the tree of a text as the single file of a program without features.
func reread(t *testing.T, text string) syntax.Tree {
	t.Helper()
	l, e := source.Plain([]api.File{{Name: "main", Text: text}}, nil, 0)
	if e != api.OK {
		t.Fatalf("%q: %v", text, e)
	}
	return syntax.Plain(l, 0)
}

// P7.11

func TestPrintedAndRead(t *testing.T) {
	programs := 0
	eachList(t, 1500, func(l source.List, d *dice) {
		x := syntax.Family(l, diagram.True())
		for c := range uint32(1 << features) {
			text, e := syntax.Print(x, c)
			if e != api.OK {
				if e != api.ErrNone || syntax.Whole(x).Has(c) {
					t.Fatalf("%s: %v", words(l), e)
				}
				continue
			}
			programs++
			if like, e := syntax.Like(reread(t, text), syntax.Project(x, c), diagram.True()); e != api.OK || !like.Full() {
				t.Fatalf("%s, %b: %q, %v", words(l), c, text, e)
			}
		}
	})
	if programs < 3000 {
		t.Error("too few programs:", programs)
	}
	for _, text := range []string{
		"fn f ( ) { print 1 " + strings.Repeat("+ ( 2 - x ) ", 400) + "; }",
		"fn f ( " + strings.Repeat("a : int , ", 200) + "b : int ) { }",
	} {
		x := plain(t, text)
		printed, _ := syntax.Print(x, 0)
		if like, e := syntax.Like(reread(t, printed), x, diagram.True()); e != api.OK || !like.Full() {
			t.Errorf("%q: %v", printed, e)
		}
	}
}
