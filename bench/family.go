package bench

import (
	"slices"
	"strconv"
	"strings"

	"motley/api"
	"motley/diagram"
	"motley/formula"
	"motley/model"
)

// noFeature is how a configuration is written that has no feature; noneFixed is a cube that fixes none.
const (
	noFeature = "-"
	noneFixed = "."
)

// family is the model of a workspace, with what is written in the names of its features.
type family struct {
	api.Model
	names []string
	sets  map[string]string
}

func (w *workspace) family() family {
	m := w.model()
	return family{Model: m, names: model.Names(m), sets: w.sets}
}

// set is the one that a word stands for.
func (f family) set(word string) diagram.D {
	switch word {
	case allName:
		return diagram.True()
	case validName:
		return got(model.Diagram(f.Model))
	}
	text, is := f.sets[word]
	if !is {
		fail(api.ErrName)
	}
	e, _, _ := formula.Parse(text) // it is in the language: otherwise there would be no such set
	return got(formula.Diagram(e, f.names))
}

// configuration is the one that a word stands for.
func (f family) configuration(word string) uint32 {
	c := uint32(0)
	if word == noFeature {
		return c
	}
	for _, name := range strings.Split(word, ",") {
		bit := uint32(1) << f.feature(name)
		if c&bit != 0 {
			fail(api.ErrTwice)
		}
		c |= bit
	}
	return c
}

// feature is the number of the feature with a name.
func (f family) feature(name string) int {
	i := slices.Index(f.names, name)
	if i < 0 {
		fail(api.ErrName)
	}
	return i
}

// shown is how a configuration is written.
func (f family) shown(c uint32) string {
	var selected []string
	for i, name := range f.names {
		if c>>i&1 == 1 {
			selected = append(selected, name)
		}
	}
	if len(selected) == 0 {
		return noFeature
	}
	return strings.Join(selected, ",")
}

// smallest is how the smallest configuration of a set that is not empty is written.
func (f family) smallest(d diagram.D) string {
	c, _ := d.Smallest()
	return f.shown(c)
}

// cube is how a cube is written.
func (f family) cube(c api.Cube) string {
	var fixed []string
	for i, name := range f.names {
		switch {
		case c.On>>i&1 == 1:
			fixed = append(fixed, "+"+name)
		case c.Off>>i&1 == 1:
			fixed = append(fixed, "-"+name)
		}
	}
	if len(fixed) == 0 {
		return noneFixed
	}
	return strings.Join(fixed, " ")
}

// size is how many configurations of the features of the model a set has.
func (f family) size(d diagram.D) uint64 { return got(d.Count(len(f.names))) }

// sizeText is how this is written.
func (f family) sizeText(d diagram.D) string { return strconv.FormatUint(f.size(d), 10) }
