package source

import (
	"cmp"
	"slices"
	"strings"

	"motley/api"
	"motley/diagram"
)

// thing is a token or a diagnostic.
type thing[T any] interface {
	cond() diagram.D
	with(d diagram.D) T // the same thing with another condition, as new memory
	compare(T) int      // by what makes two things of a canonical list different
	same(T) bool        // in all fields
}

func (t Token) cond() diagram.D { return t.Cond }

func (t Token) with(d diagram.D) Token {
	t.Path, t.Cond = slices.Clone(t.Path), d
	return t
}

func (t Token) compare(o Token) int {
	return cmp.Or(slices.Compare(t.Path, o.Path), cmp.Compare(t.Kind, o.Kind), strings.Compare(t.Text, o.Text))
}

func (t Token) same(o Token) bool {
	return t.compare(o) == 0 && t.File == o.File && t.Line == o.Line && t.Cond.Same(o.Cond)
}

func (g Diag) cond() diagram.D { return g.Cond }

func (g Diag) with(d diagram.D) Diag {
	g.Path, g.Cond = slices.Clone(g.Path), d
	return g
}

func (g Diag) compare(o Diag) int {
	return cmp.Or(slices.Compare(g.Path, o.Path), cmp.Compare(g.Code, o.Code))
}

func (g Diag) same(o Diag) bool {
	return g.compare(o) == 0 && g.File == o.File && g.Line == o.Line && g.Cond.Same(o.Cond)
}

// changeAll returns things with other conditions. What has none then is left out.
func changeAll[T thing[T]](l []T, change func(diagram.D) diagram.D) []T {
	var kept []T
	for _, x := range l {
		if d := change(x.cond()); !d.Empty() {
			kept = append(kept, x.with(d))
		}
	}
	return kept
}

// orderAll sorts things, and makes one of those that are equal apart from their conditions: the first.
func orderAll[T thing[T]](l []T) []T {
	slices.SortStableFunc(l, func(a, b T) int { return a.compare(b) })
	var kept []T
	for _, x := range l {
		last := len(kept) - 1
		if last < 0 || kept[last].compare(x) != 0 {
			kept = append(kept, x)
			continue
		}
		kept[last] = kept[last].with(kept[last].cond().Or(x.cond()))
	}
	return kept
}

// areOrdered reports whether things are as orderAll leaves them, and have conditions.
func areOrdered[T thing[T]](l []T) bool {
	for k, x := range l {
		if x.cond().Empty() || k > 0 && l[k-1].compare(x) >= 0 {
			return false
		}
	}
	return true
}

func areSame[T thing[T]](a, b []T) bool {
	return slices.EqualFunc(a, b, func(x, y T) bool { return x.same(y) })
}

func change(l List, change func(diagram.D) diagram.D) List {
	return List{changeAll(l.Tokens, change), changeAll(l.Diags, change)}
}

// canonical returns the canonical list of what has conditions. It sorts its argument.
func canonical(l List) List { return List{orderAll(l.Tokens), orderAll(l.Diags)} }

// Project returns what a configuration has of a list.
func Project(l List, c uint32) List {
	return change(l, func(d diagram.D) diagram.D {
		if d.Has(c) {
			return diagram.True()
		}
		return diagram.False()
	})
}

// Restrict returns what some configurations have of a list.
func Restrict(l List, d diagram.D) List {
	return change(l, func(cond diagram.D) diagram.D { return cond.And(d) })
}

// Merge returns the canonical list of all that is in some lists.
func Merge(l []List) List {
	var all List
	for _, x := range l {
		x = change(x, func(d diagram.D) diagram.D { return d })
		all.Tokens = append(all.Tokens, x.Tokens...)
		all.Diags = append(all.Diags, x.Diags...)
	}
	return canonical(all)
}

// Same reports whether two lists are equal in all fields.
func Same(a, b List) bool { return areSame(a.Tokens, b.Tokens) && areSame(a.Diags, b.Diags) }

// Valid reports whether a list is canonical.
func Valid(l List) bool { return areOrdered(l.Tokens) && areOrdered(l.Diags) }

// Text returns the texts of the tokens, line by line.
func Text(l List) string {
	var text strings.Builder
	width := 0
	for k, t := range l.Tokens {
		text.WriteString(t.Text)
		width++
		if width < api.MaxWidth && k+1 < len(l.Tokens) && inOneLine(t, l.Tokens[k+1]) {
			text.WriteByte(' ')
			continue
		}
		text.WriteByte('\n')
		width = 0
	}
	return text.String()
}

func inOneLine(a, b Token) bool { return a.File == b.File && a.Line == b.Line }

// Conditions returns the conditions of the tokens, each once.
func Conditions(l List) []diagram.D {
	seen := map[diagram.D]bool{}
	var conds []diagram.D
	for _, t := range l.Tokens {
		if !seen[t.Cond] {
			seen[t.Cond] = true
			conds = append(conds, t.Cond)
		}
	}
	return conds
}

// Find returns the indices of the tokens of a line.
func Find(l List, file, line int) []int {
	var at []int
	for k, t := range l.Tokens {
		if t.File == file && t.Line == line {
			at = append(at, k)
		}
	}
	return at
}
