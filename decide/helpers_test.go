package decide_test

import (
	"iter"
	"slices"
	"strconv"
	"strings"
	"testing"

	"motley/api"
	"motley/decide"
	"motley/model"
)

const phone = "root Phone\nmandatory Phone Screen\noptional Phone Gps\nmember Screen Basic\nmember Screen Colour\n" +
	"group Screen 1 1 Basic Colour\nattribute price\nvalue price Gps 7\nvalue price Colour 20\n" +
	"require Gps => Colour\nlimit price <= 30\n"

// wide is a model with as many features as there may be, all but the root optional.
func wide() string {
	text := "root F0\n"
	for i := 1; i < api.MaxFeatures; i++ {
		text += "optional F0 F" + strconv.Itoa(i) + "\n"
	}
	return text
}

func parsed(t *testing.T, text string) api.Model {
	t.Helper()
	m, line, e := model.Parse(text)
	if e != api.OK {
		t.Fatalf("Parse(%q): line %d, %v", text, line, e)
	}
	return m
}

func started(t *testing.T, text string) *decide.Session {
	t.Helper()
	s, e := decide.New(parsed(t, text))
	if e != api.OK || s == nil {
		t.Fatalf("New(%q): %v", text, e)
	}
	return s
}

// loaded is a session of the phone with the choices of a text.
func loaded(t *testing.T, text string) *decide.Session {
	t.Helper()
	s, line, e := decide.Load(parsed(t, phone), text)
	if e != api.OK || line != 0 || s == nil {
		t.Fatalf("Load(%q): line %d, %v", text, line, e)
	}
	return s
}

func on(feature int) api.Choice { return api.Choice{Feature: feature, On: true} }

func off(feature int) api.Choice { return api.Choice{Feature: feature} }

// dice gives numbers that look like chance, the same ones in each run.
type dice uint64

func (d *dice) roll(n int) int {
	*d ^= *d << 13
	*d ^= *d >> 7
	*d ^= *d << 17
	return int(*d >> 1 % dice(n))
}

func (d *dice) choice(features int) api.Choice {
	return api.Choice{Feature: d.roll(features), On: d.roll(2) == 1}
}

// choices is a list that may have a feature several times.
func (d *dice) choices(features, count int) []api.Choice {
	var l []api.Choice
	for range count {
		l = append(l, d.choice(features))
	}
	return l
}

// texts are models of up to six features; some of them are void.
func texts(more int) []string {
	l := []string{
		phone,
		"root a",
		"root a\nrequire !a",
		"root a\noptional a b\noptional b c\nrequire b => !c",
		"root a\noptional a b\noptional a c\nrequire b ^ c\nrequire b | c",
		"root a\noptional a b\noptional a c\noptional a d\nrequire b => c\nrequire c => d\nrequire b => d",
		"root a\nattribute p\noptional a b\nvalue p b -1\noptional a c\nvalue p c -1\nlimit p >= -1",
	}
	d := dice(271828182845904523)
	for range more {
		l = append(l, d.text(1+d.roll(6)))
	}
	return l
}

func (d *dice) text(n int) string {
	var text strings.Builder
	line := func(words ...string) { text.WriteString(strings.Join(words, " ") + "\n") }
	name := func(i int) string { return "F" + strconv.Itoa(i) }
	some := func() string { return name(d.roll(n)) }
	line("root F0")
	members := make([][]string, n)
	for i := 1; i < n; i++ {
		kind := [...]string{"mandatory", "optional", "optional", "member"}[d.roll(4)]
		parent := d.roll(i)
		if kind == "member" {
			members[parent] = append(members[parent], name(i))
		}
		line(kind, name(parent), name(i))
	}
	for parent, l := range members {
		if len(l) > 0 {
			high := d.roll(len(l) + 1)
			line("group", name(parent), strconv.Itoa(d.roll(high+1)), strconv.Itoa(high), strings.Join(l, " "))
		}
	}
	for _, a := range []string{"p", "q"}[:d.roll(3)] {
		line("attribute", a)
		for i := range n {
			line("value", a, name(i), [...]string{"0", "1", "2", "-1", "-3", "2147483648", "-2147483648"}[d.roll(7)])
		}
		if d.roll(3) == 0 {
			line("limit", a, [...]string{"<=", ">=", "="}[d.roll(3)], strconv.Itoa(d.roll(7)-3))
		}
	}
	for range d.roll(4) {
		form := [...]string{"X => Y", "!(X & Y)", "X | Y", "X => Y | Z", "X ^ Y ^ Z", "X & Y => Z"}[d.roll(6)]
		line("require", strings.NewReplacer("X", some(), "Y", some(), "Z", some()).Replace(form))
	}
	return text.String()
}

// truth has what is true of a model, found by going through its configurations one by one.
type truth struct {
	api.Model
	text     string
	n        int
	rules    int
	broken   [][]int // by configuration
	products []uint32
}

func truthOf(t *testing.T, text string) truth {
	t.Helper()
	m := parsed(t, text)
	rules, _ := model.Rules(m)
	x := truth{Model: m, text: text, n: len(m.Features), rules: len(rules)}
	for c := range uint32(1) << x.n {
		broken, _ := model.Broken(m, c)
		x.broken = append(x.broken, broken)
		if len(broken) == 0 {
			x.products = append(x.products, c)
		}
	}
	return x
}

// agrees reports whether a configuration agrees with all choices.
func agrees(c uint32, l ...api.Choice) bool {
	for _, x := range l {
		if c>>x.Feature&1 == 1 != x.On {
			return false
		}
	}
	return true
}

// rest are the products that agree with all choices.
func (x truth) rest(l ...api.Choice) []uint32 {
	return slices.DeleteFunc(slices.Clone(x.products), func(c uint32) bool { return !agrees(c, l...) })
}

// states are those of a session with these choices.
func (x truth) states(l []api.Choice) []decide.State {
	var states []decide.State
	for i := range x.n {
		with, without := x.rest(append(slices.Clone(l), on(i))...), x.rest(append(slices.Clone(l), off(i))...)
		switch {
		case slices.Contains(l, on(i)):
			states = append(states, decide.Chosen)
		case slices.Contains(l, off(i)):
			states = append(states, decide.Refused)
		case len(without) == 0:
			states = append(states, decide.Forced)
		case len(with) == 0:
			states = append(states, decide.Barred)
		default:
			states = append(states, decide.Free)
		}
	}
	return states
}

// excluded reports whether no configuration agrees with all choices and satisfies these rules.
func (x truth) excluded(l []api.Choice, rules []int) bool {
	for c, broken := range x.broken {
		meets := slices.ContainsFunc(broken, func(k int) bool { return slices.Contains(rules, k) })
		if agrees(uint32(c), l...) && !meets {
			return false
		}
	}
	return true
}

// pick returns the elements of a list that have these indexes.
func pick(l []api.Choice, indexes []int) []api.Choice {
	var picked []api.Choice
	for _, k := range indexes {
		picked = append(picked, l[k])
	}
	return picked
}

func numbers(n int) []int {
	var l []int
	for k := range n {
		l = append(l, k)
	}
	return l
}

// without is a list without one element.
func without(l []int, k int) []int {
	return slices.DeleteFunc(slices.Clone(l), func(other int) bool { return other == k })
}

// reason is that of why no product agrees with the choices and with kind, found as the chapter says.
func (x truth) reason(l []api.Choice, kind api.Choice) decide.Reason {
	choices, rules := numbers(len(l)), numbers(x.rules)
	enough := func(choices, rules []int) bool { return x.excluded(append(pick(l, choices), kind), rules) }
	for k := range l {
		if enough(without(choices, k), rules) {
			choices = without(choices, k)
		}
	}
	for k := range x.rules {
		if enough(choices, without(rules, k)) {
			rules = without(rules, k)
		}
	}
	return decide.Reason{Choices: choices, Rules: rules}
}

func sameReason(a, b decide.Reason) bool {
	return slices.Equal(a.Choices, b.Choices) && slices.Equal(a.Rules, b.Rules)
}

// sessions yields sessions that some calls led to, each with the truth about its model.
func sessions(t *testing.T, more int) iter.Seq2[*decide.Session, truth] {
	return func(yield func(*decide.Session, truth) bool) {
		for k, text := range texts(more) {
			x := truthOf(t, text)
			s, e := decide.New(x.Model)
			if (e == api.OK) != (len(x.products) > 0) {
				t.Fatalf("New: %v for %q", e, text)
			}
			d := dice(7 + 1000003*k)
			for range 2 * x.n {
				if e != api.OK || !yield(s.Copy(), x) {
					break
				}
				if c := d.choice(x.n); d.roll(6) == 0 {
					s.Retract(c.Feature)
				} else {
					s.Decide(c.Feature, c.On)
				}
			}
		}
	}
}

// shaped is how a session looks in messages.
func shaped(s *decide.Session, x truth) string {
	return strconv.Quote(s.Text()) + " for " + strconv.Quote(x.text)
}
