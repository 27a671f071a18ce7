package syntax_test

import (
	"strings"
	"testing"

	"motley/api"
	"motley/source"
	"motley/syntax"
)

// The grammar of the chapter, as rules: what stands behind the : of one of them are its alternatives, with | between
// them. What is in small letters and has no rule is a token.
const grammarRules = `
program : | program var | program fn
var : 'var' NAME ':' type ';' | 'var' NAME ':' type '=' expr ';'
fn : 'fn' NAME '(' ')' result block | 'fn' NAME '(' params ')' result block
params : param | params ',' param
param : NAME ':' type
result : | ':' type
type : 'int' | 'bool'
block : '{' stmts '}'
stmts : | stmts stmt
stmt : var | NAME '=' expr ';' | call ';' | if | while | block
stmt : 'return' ';' | 'return' expr ';' | 'print' expr ';' | 'assert' expr ';'
if : 'if' '(' expr ')' block | 'if' '(' expr ')' block 'else' block | 'if' '(' expr ')' block 'else' if
while : 'while' '(' expr ')' block
expr : and | expr '||' and
and : cmp | and '&&' cmp
cmp : sum | sum relation sum
relation : '==' | '!=' | '<' | '<=' | '>' | '>='
sum : prod | sum '+' prod | sum '-' prod
prod : unary | prod '*' unary | prod '/' unary | prod '%' unary
unary : '!' unary | '-' unary | least
least : NUMBER | 'true' | 'false' | 'read' | NAME | call | '(' expr ')'
call : NAME '(' ')' | NAME '(' args ')'
args : expr | args ',' expr
`

// rules are the alternatives of each name.
func rules() map[string][][]string {
	l := map[string][][]string{}
	for line := range strings.Lines(strings.TrimSpace(grammarRules)) {
		name, right, _ := strings.Cut(strings.TrimSpace(line), " :")
		for _, alternative := range strings.Split(right+" ", " | ") {
			l[name] = append(l[name], strings.Fields(strings.ReplaceAll(alternative, "'||'", "'or'")))
		}
	}
	return l
}

// state is an alternative of a rule of which a part was found, from some token on.
type state struct {
	name        string
	alternative int
	dot, from   int
}

// recognise goes through some words with all alternatives at once. It returns the first word with which no text that
// has this name can go on (or how many words there are), and whether there is none and the text may end there.
func recognise(l map[string][][]string, name string, words []string) (int, bool) {
	columns := make([]map[state]bool, len(words)+1)
	for k := range columns {
		columns[k] = map[state]bool{}
	}
	for k := range l[name] {
		columns[0][state{name, k, 0, 0}] = true
	}
	for at := range columns {
		complete := closeColumn(l, columns, at, name)
		switch {
		case at == len(words):
			return at, complete
		default:
			for s := range columns[at] {
				if right := l[s.name][s.alternative]; s.dot < len(right) && fits(right[s.dot], words[at]) {
					s.dot++
					columns[at+1][s] = true
				}
			}
			if len(columns[at+1]) == 0 {
				return at, false
			}
		}
	}
	return 0, false
}

// closeColumn adds what follows without a token, until there is no more. It returns whether the whole is complete.
func closeColumn(l map[string][][]string, columns []map[state]bool, at int, name string) bool {
	complete := false
	for size := -1; size != len(columns[at]); {
		size = len(columns[at])
		var more []state
		for s := range columns[at] {
			right := l[s.name][s.alternative]
			if s.dot < len(right) {
				for k := range l[right[s.dot]] {
					more = append(more, state{right[s.dot], k, 0, at})
				}
				continue
			}
			complete = complete || s.name == name && s.from == 0
			for before := range columns[s.from] {
				if right := l[before.name][before.alternative]; before.dot < len(right) && right[before.dot] == s.name {
					before.dot++
					more = append(more, before)
				}
			}
		}
		for _, s := range more {
			columns[at][s] = true
		}
	}
	return complete
}

// fits reports whether a word is the token that a rule has.
func fits(token, word string) bool {
	switch token {
	case "NAME":
		l, e := source.Lex(word)
		return e == api.OK && l[0].Kind == api.TokName && !strings.Contains(" "+strings.Join(grammarWords, " ")+" ", " "+word+" ")
	case "NUMBER":
		l, e := source.Lex(word)
		return e == api.OK && l[0].Kind == api.TokNumber
	}
	return token == "'"+strings.ReplaceAll(word, "||", "or")+"'"
}

// P7.1: no program begins with the tokens up to the error, and one does with those before it.

func TestGrammar(t *testing.T) {
	l := rules()
	d := newDice()
	check := func(text string) {
		t.Helper()
		words := strings.Fields(text)
		want, whole := recognise(l, "program", words)
		got := plain(t, text)
		if whole {
			if len(got.Kids) != 1 || len(got.Diags) != 0 {
				t.Fatalf("%s is a program: %s", text, outcome(got))
			}
			return
		}
		if outcome(got) != "10 at "+itoa(want) {
			t.Fatalf("%s: %s, want an error at %d", text, outcome(got), want)
		}
	}
	for range 400 {
		check(strings.Join(someWords(d, d.roll(3)), " "))
	}
	for range 3000 { // what comes next is often such that a program can go on
		words := strings.Fields(pick(d, "fn f ( ) {", "fn f ( ) { print", "fn f ( ) { if ( x ) {", "fn f ( a : int", ""))
		for range 12 {
			words = append(words, someWord(d))
			if at, _ := recognise(l, "program", words); at < len(words) && d.roll(6) > 0 {
				words = words[:len(words)-1]
			}
		}
		check(strings.Join(words, " "))
	}
}

// P7.7

func TestGrammarOfExpressions(t *testing.T) {
	l := rules()
	d := newDice()
	whole := 0
	for range 3000 {
		var words []string
		for range 1 + d.roll(9) {
			words = append(words, pick(d, "x", "1", "f", "(", ")", ",", "||", "&&", "==", "<", "+", "-", "*", "!", "read", "int", ";"))
			if at, _ := recognise(l, "expr", words); at < len(words) && d.roll(20) > 0 {
				words = words[:len(words)-1]
			}
		}
		if _, is := recognise(l, "expr", words); is {
			whole++
			if _, e := syntax.Expression(strings.Join(words, " ")); e != api.OK {
				t.Fatalf("%s: %v", words, e)
			}
		} else if _, e := syntax.Expression(strings.Join(words, " ")); len(words) > 0 && e != api.ErrForm {
			t.Fatalf("%s: %v", words, e)
		}
	}
	if whole < 300 {
		t.Error("too few expressions:", whole)
	}
}
