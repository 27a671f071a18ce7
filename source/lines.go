package source

import (
	"strings"

	"motley/api"
)

// The words of directives. Lines that are no directives have none.
const (
	textWord    = ""
	ifWord      = "if"
	ifdefWord   = "ifdef"
	ifndefWord  = "ifndef"
	elifWord    = "elif"
	elseWord    = "else"
	endifWord   = "endif"
	defineWord  = "define"
	undefWord   = "undef"
	includeWord = "include"
	errorWord   = "error"
)

// definedWord asks for a macro in an expression, and so it can be no name of one.
const definedWord = "defined"

// The signs around and between parameters and arguments.
const (
	openSign  = "("
	closeSign = ")"
	commaSign = ","
)

// line is a line of a file.
type line struct {
	word   string  // of a directive
	tokens []token // of a line that is no directive, or of an expression
	name   string  // that an ifdef, ifndef or undef is about; of an include that of the file
	file   int     // that is included
	macro  macro   // that is defined
	width  int     // how many tokens there are, of a directive behind the word
}

// macro is a definition, or a feature that is selected.
type macro struct {
	name   string
	number int
	call   bool // function-like
	params []string
	body   []token
}

// begins reports whether a conditional begins with the line.
func (l line) begins() bool { return l.word == ifWord || l.word == ifdefWord || l.word == ifndefWord }

// continues reports whether the line is another directive of a conditional.
func (l line) continues() bool {
	return l.word == elifWord || l.word == elseWord || l.word == endifWord
}

// parse returns the line that a text is, and whether it is one.
func parse(text string) (line, bool) {
	if !hasLineBytes(text) {
		return line{}, false
	}
	rest := strings.TrimLeft(text, blanks)
	if !strings.HasPrefix(rest, "#") {
		l, is := lex(rest)
		return line{tokens: l, width: len(l)}, is
	}
	rest = strings.TrimLeft(rest[1:], blanks)
	end := length(rest, isLetter)
	return parseDirective(rest[:end], rest[end:])
}

// parseDirective returns the directive with a word, and what follows it.
func parseDirective(word, rest string) (line, bool) {
	switch word {
	case includeWord:
		name, is := quoted(rest)
		return line{word: word, name: name}, is
	case errorWord:
		return line{word: word}, true
	}
	tokens, is := lex(rest)
	if !is {
		return line{}, false
	}
	l := line{word: word, width: len(tokens)}
	switch word {
	case ifWord, elifWord:
		l.tokens = tokens
		return l, len(tokens) > 0
	case ifdefWord, ifndefWord, undefWord:
		if len(tokens) != 1 || tokens[0].kind != api.TokName {
			return line{}, false
		}
		l.name = tokens[0].text
		return l, true
	case elseWord, endifWord:
		return l, len(tokens) == 0
	case defineWord:
		l.macro, is = parseMacro(tokens, rest)
		return l, is
	}
	return line{}, false
}

// quoted returns what stands between the quotation marks of an include.
func quoted(rest string) (string, bool) {
	before, rest, _ := strings.Cut(rest, `"`)
	name, after, closed := strings.Cut(rest, `"`)
	after = strings.TrimLeft(after, blanks)
	return name, closed && strings.Trim(before, blanks) == "" && (after == "" || strings.HasPrefix(after, comment))
}

// parseMacro returns the macro that the tokens of a text define.
func parseMacro(tokens []token, text string) (macro, bool) {
	if len(tokens) == 0 || tokens[0].kind != api.TokName {
		return macro{}, false
	}
	m := macro{name: tokens[0].text}
	body := tokens[1:]
	behind := strings.TrimLeft(text, blanks)[len(m.name):]
	if strings.HasPrefix(behind, openSign) {
		end := find(body, closeSign)
		if end < 0 {
			return macro{}, false
		}
		var are bool
		if m.params, are = parseParams(body[1:end]); !are {
			return macro{}, false
		}
		m.call = true
		body = body[end+1:]
	}
	for i, t := range body {
		t.index = i
		m.body = append(m.body, t)
	}
	return m, true
}

// find is the index of the first token with a text; -1 if there is none.
func find(l []token, text string) int {
	for i, t := range l {
		if t.text == text {
			return i
		}
	}
	return -1
}

// parseParams returns the names between which there are commas.
func parseParams(l []token) ([]string, bool) {
	if len(l) == 0 {
		return nil, true
	}
	var params []string
	for i, t := range l {
		switch {
		case i%2 == 0 && t.kind == api.TokName:
			params = append(params, t.text)
		case i%2 == 0 || t.text != commaSign:
			return nil, false
		}
	}
	return params, len(l)%2 == 1
}
