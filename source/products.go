package source

import (
	"cmp"
	"slices"
	"strings"

	"motley/api"
	"motley/diagram"
)

// Products returns the words that configurations in within have, by the least configuration of each.
func Products(l List, within diagram.D, most int) ([]Product, api.Errno) {
	if most < 0 {
		return nil, api.ErrRange
	}
	b := newBranches()
	reached := share(0, within)
	for _, t := range l.Tokens {
		var next shares[int]
		for at, d := range reached.all() {
			next.add(at, without(d, t.Cond))
			next.add(b.behind(at, t.Text), meet(d, t.Cond))
		}
		if reached = next; b.different(reached.keys) > most {
			return nil, api.ErrLimit
		}
	}
	var words shares[string]
	for at, d := range reached.all() {
		words.add(b.words(at), d)
	}
	if len(words.keys) > most {
		return nil, api.ErrLimit
	}
	var products []Product
	for text, d := range words.all() {
		products = append(products, Product{text, d})
	}
	slices.SortFunc(products, byLeast)
	return products, api.OK
}

// byLeast compares products by their least configurations.
func byLeast(a, b Product) int {
	x, _ := a.Cond.Least()
	y, _ := b.Cond.Least()
	return cmp.Compare(x, y)
}

// branches are the beginnings of the words of a list, as a tree: the first one has no text at all, and each other one
// is another one with one more piece of text behind it, which has no blank.
type branches struct {
	all    []branch
	places map[step]int
}

type branch struct {
	step
	depth int
}

// step is how one comes to a branch.
type step struct {
	from  int
	piece string
}

func newBranches() *branches { return &branches{all: make([]branch, 1), places: map[step]int{}} }

// behind returns the branch that follows one with the text of a token. (The text has a blank only if the list is not
// one of a source; but then there may be other tokens that give the same words.)
func (b *branches) behind(at int, text string) int {
	for _, piece := range strings.Split(text, " ") {
		s := step{at, piece}
		next, is := b.places[s]
		if !is {
			next = len(b.all)
			b.places[s] = next
			b.all = append(b.all, branch{s, b.all[at].depth + 1})
		}
		at = next
	}
	return at
}

// different is a number of branches whose words will differ, whatever follows them: branches of one depth differ in a
// piece that both have. (One that is longer than another one may still become equal to it.)
func (b *branches) different(l []int) int {
	count, most := map[int]int{}, 0
	for _, at := range l {
		depth := b.all[at].depth
		count[depth]++
		most = max(most, count[depth])
	}
	return most
}

// words returns the text of a branch.
func (b *branches) words(at int) string {
	var pieces []string
	for ; at > 0; at = b.all[at].from {
		pieces = append(pieces, b.all[at].piece)
	}
	slices.Reverse(pieces)
	return strings.Join(pieces, " ")
}
