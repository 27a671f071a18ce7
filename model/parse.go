package model

import (
	"slices"
	"strconv"
	"strings"

	"motley/api"
	"motley/formula"
)

// Parse returns the model of a text; or an error, and the number of the line at which it is.
func Parse(text string) (m api.Model, line int, e api.Errno) {
	if len(text) > api.MaxModel {
		return api.Model{}, 0, api.ErrLimit
	}
	r := reader{adders: adders(), values: map[valued]int64{}}
	for s := range strings.Lines(text) {
		line++
		if e := r.read(strings.TrimSuffix(s, "\n")); e != api.OK {
			return api.Model{}, line, e
		}
	}
	if len(r.Features) == 0 || checkMembers(r.Model) != api.OK {
		return api.Model{}, line + 1, api.ErrArg
	}
	r.fill()
	return r.Model, 0, api.OK
}

// reader adds line by line to a model, whose attributes get their values at the end.
type reader struct {
	api.Model
	adders map[string]adder
	values map[valued]int64
}

// valued is what a value is given for: the numbers of an attribute and of a feature.
type valued struct{ attribute, feature int }

// adder adds what a line says behind its first word.
type adder func(r *reader, rest string) api.Errno

// adders are by the first word of the line.
func adders() map[string]adder {
	return map[string]adder{
		kindWord(api.Root):      (*reader).root,
		kindWord(api.Mandatory): (*reader).mandatory,
		kindWord(api.Optional):  (*reader).optional,
		kindWord(api.Member):    (*reader).member,
		"group":                 (*reader).group,
		"attribute":             (*reader).attribute,
		"value":                 (*reader).value,
		"require":               (*reader).require,
		"limit":                 (*reader).limit,
	}
}

func (r *reader) read(line string) api.Errno {
	line = strings.TrimLeft(line, " ")
	if line == "" || line[0] == '#' {
		return api.OK
	}
	first, _, _ := strings.Cut(line, " ")
	add, is := r.adders[first]
	if !is {
		return api.ErrForm
	}
	return add(r, line[len(first):])
}

// words returns the words of a text, and whether there are so many.
func words(text string, count int) ([]string, bool) {
	l := manyWords(text)
	return l, len(l) == count
}

func manyWords(text string) []string {
	return strings.FieldsFunc(text, func(r rune) bool { return r == ' ' })
}

// number returns the number that a word is, and whether it is one that is written without anything needless.
func number(s string) (int64, bool) {
	x, err := strconv.ParseInt(s, 10, 64)
	return x, err == nil && strconv.FormatInt(x, 10) == s
}

func (r *reader) root(rest string) api.Errno {
	w, right := words(rest, 1)
	switch {
	case !right:
		return api.ErrForm
	case len(r.Features) > 0:
		return api.ErrState
	}
	return r.add(api.Feature{Name: w[0], Parent: -1, Kind: api.Root})
}

func (r *reader) mandatory(rest string) api.Errno { return r.child(rest, api.Mandatory) }

func (r *reader) optional(rest string) api.Errno { return r.child(rest, api.Optional) }

func (r *reader) member(rest string) api.Errno { return r.child(rest, api.Member) }

// child adds a feature that has a parent.
func (r *reader) child(rest string, kind uint8) api.Errno {
	w, right := words(rest, 2)
	switch {
	case !right:
		return api.ErrForm
	case len(r.Features) == 0:
		return api.ErrState
	}
	parent := featureNamed(r.Features, w[0])
	if parent < 0 {
		return api.ErrName
	}
	return r.add(api.Feature{Name: w[1], Parent: parent, Kind: kind})
}

// add adds a feature whose name is not looked at yet.
func (r *reader) add(f api.Feature) api.Errno {
	switch {
	case !isName(f.Name):
		return api.ErrName
	case featureNamed(r.Features, f.Name) >= 0:
		return api.ErrTwice
	case len(r.Features) == api.MaxFeatures:
		return api.ErrLimit
	}
	r.Features = append(r.Features, f)
	return api.OK
}

func (r *reader) group(rest string) api.Errno {
	w := manyWords(rest)
	if len(w) < 4 {
		return api.ErrForm
	}
	low, isLow := number(w[1])
	high, isHigh := number(w[2])
	if !isLow || !isHigh {
		return api.ErrForm
	}
	g := api.Group{Parent: featureNamed(r.Features, w[0]), Low: int(low), High: int(high)}
	for _, s := range w[3:] {
		g.Members = append(g.Members, featureNamed(r.Features, s))
	}
	switch {
	case g.Parent < 0 || slices.Contains(g.Members, -1):
		return api.ErrName
	case !fits(g, r.Features, r.Groups):
		return api.ErrArg
	case len(r.Groups) == api.MaxGroups:
		return api.ErrLimit
	}
	r.Groups = append(r.Groups, g)
	return api.OK
}

func (r *reader) attribute(rest string) api.Errno {
	w, right := words(rest, 1)
	switch {
	case !right:
		return api.ErrForm
	case !isName(w[0]):
		return api.ErrName
	case attributeNamed(r.Attributes, w[0]) >= 0:
		return api.ErrTwice
	case len(r.Attributes) == api.MaxAttributes:
		return api.ErrLimit
	}
	r.Attributes = append(r.Attributes, api.Attribute{Name: w[0]})
	return api.OK
}

func (r *reader) value(rest string) api.Errno {
	w, right := words(rest, 3)
	if !right {
		return api.ErrForm
	}
	x, isNumber := number(w[2])
	if !isNumber {
		return api.ErrForm
	}
	v := valued{attributeNamed(r.Attributes, w[0]), featureNamed(r.Features, w[1])}
	if v.attribute < 0 || v.feature < 0 {
		return api.ErrName
	}
	if _, given := r.values[v]; given {
		return api.ErrTwice
	}
	if isNoCost(x) {
		return api.ErrArg
	}
	r.values[v] = x
	return api.OK
}

func (r *reader) require(rest string) api.Errno {
	e, _, wrong := formula.Parse(rest)
	switch {
	case wrong != api.OK:
		return api.ErrForm
	case !namesOnly(e, r.Features):
		return api.ErrName
	case len(r.Requires) == api.MaxRequires:
		return api.ErrLimit
	}
	r.Requires = append(r.Requires, e)
	return api.OK
}

func (r *reader) limit(rest string) api.Errno {
	w, right := words(rest, 3)
	if !right {
		return api.ErrForm
	}
	rel := relationOf(w[1])
	bound, isNumber := number(w[2])
	if rel == 0 || !isNumber {
		return api.ErrForm
	}
	attribute := attributeNamed(r.Attributes, w[0])
	switch {
	case attribute < 0:
		return api.ErrName
	case len(r.Limits) == api.MaxLimits:
		return api.ErrLimit
	}
	r.Limits = append(r.Limits, api.Limit{Attribute: attribute, Rel: rel, Bound: bound})
	return api.OK
}

// fill gives the attributes their values.
func (r *reader) fill() {
	for k := range r.Attributes {
		a := &r.Attributes[k]
		for i := range r.Features {
			a.Values = append(a.Values, r.values[valued{k, i}])
		}
	}
}
