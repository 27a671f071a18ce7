package decide_test

import (
	"slices"
	"strings"
	"testing"

	"motley/api"
	"motley/decide"
)

// P4.7

func TestText(t *testing.T) {
	s := started(t, phone)
	for _, x := range []struct {
		choice api.Choice
		want   string
	}{
		{on(4), "+ Colour\n"},
		{off(2), "+ Colour\n- Gps\n"},
		{on(0), "+ Colour\n- Gps\n+ Phone\n"},
	} {
		s.Decide(x.choice.Feature, x.choice.On)
		if got := s.Text(); got != x.want {
			t.Errorf("Text: %q, want %q", got, x.want)
		}
	}
}

func TestLoad(t *testing.T) {
	for text, want := range map[string][]api.Choice{
		"":                                  nil,
		"+ Gps":                             {on(2)},
		"+ Gps\n":                           {on(2)},
		"- Colour\n+ Phone":                 {off(4), on(0)},
		"+ Screen\n- Gps\n- Basic\n":        {on(1), off(2), off(3)},
		"+ Phone\n+ Screen\n+ Colour\n":     {on(0), on(1), on(4)},
		"- Gps\n+ Basic\n- Colour\n+ Phone": {off(2), on(3), off(4), on(0)},
	} {
		wantChoices(t, "Load", loaded(t, text), want...)
	}
}

func TestLoadErrors(t *testing.T) {
	m := parsed(t, phone)
	for _, x := range []struct {
		text string
		line int
		want api.Errno
	}{
		{"\n", 1, api.ErrForm},
		{"+", 1, api.ErrForm},
		{"+ ", 1, api.ErrForm},
		{"+ \n", 1, api.ErrForm},
		{"-\n", 1, api.ErrForm},
		{"+Gps", 1, api.ErrForm},
		{"+Gps Gps", 1, api.ErrForm},
		{"+\tGps", 1, api.ErrForm},
		{" + Gps", 1, api.ErrForm},
		{"* Gps", 1, api.ErrForm},
		{"# Gps", 1, api.ErrForm},
		{"Gps", 1, api.ErrForm},
		{"\u2212 Gps", 1, api.ErrForm},
		{"+ Gps\n\n", 2, api.ErrForm},
		{"+ Gps\n\n+ Phone", 2, api.ErrForm},
		{"+ Gps\n+ Phone\n ", 3, api.ErrForm},
		{"+  Gps", 1, api.ErrName},
		{"+  ", 1, api.ErrName},
		{"+ Gps ", 1, api.ErrName},
		{"+ Gps\r\n", 1, api.ErrName},
		{"+ gps", 1, api.ErrName},
		{"+ Gp", 1, api.ErrName},
		{"+ Gps Phone", 1, api.ErrName},
		{"+ price", 1, api.ErrName},
		{"+ 2", 1, api.ErrName},
		{"+ \x00\xff", 1, api.ErrName},
		{"- Gps\n+ Phone\n+ Nothing\n+", 3, api.ErrName},
		{"+ Gps\n+ Gps", 2, api.ErrTwice},
		{"+ Gps\n- Gps\n", 2, api.ErrTwice},
		{"+ Gps\n+ Phone\n- Gps\n+ Basic\n", 3, api.ErrTwice},
		{"+ Gps\n+ Basic", 2, api.ErrConflict},
		{"- Phone\n", 1, api.ErrConflict},
		{"+ Gps\n+ Phone\n- Colour\n", 3, api.ErrConflict},
		{"+ Gps\n+ Basic\n\n", 2, api.ErrConflict},
		{strings.Repeat("+ Gps\n", 100000), 2, api.ErrTwice},
		{strings.Repeat("+", 1<<20), 1, api.ErrForm},
		{"+ " + strings.Repeat("G", 1<<20), 1, api.ErrName},
	} {
		if s, line, e := decide.Load(m, x.text); s != nil || line != x.line || e != x.want {
			t.Errorf("Load(%.40q): %v, line %d, %v, want line %d, %v", x.text, s, line, e, x.line, x.want)
		}
	}
}

// P4.16

func TestLoadOfText(t *testing.T) {
	for s, x := range sessions(t, 150) {
		o, line, e := decide.Load(x.Model, s.Text())
		if line != 0 || e != api.OK || !slices.Equal(o.Choices(), s.Choices()) || o.Text() != s.Text() {
			t.Errorf("Load of the text: line %d, %v, %v in %s", line, e, o.Choices(), shaped(s, x))
		}
	}
}
