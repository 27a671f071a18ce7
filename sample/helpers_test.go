package sample_test

import (
	"math/bits"
	"slices"
	"strconv"
	"strings"
	"testing"

	"motley/api"
	"motley/model"
)

const phone = "root Phone\nmandatory Phone Screen\noptional Phone Gps\nmember Screen Basic\nmember Screen Colour\n" +
	"group Screen 1 1 Basic Colour\nattribute price\nvalue price Gps 7\nvalue price Colour 20\n" +
	"require Gps => Colour\nlimit price <= 30\n"

func parsed(t *testing.T, text string) api.Model {
	t.Helper()
	m, line, e := model.Parse(text)
	if e != api.OK {
		t.Fatalf("Parse(%q): line %d, %v", text, line, e)
	}
	return m
}

// free is the text of a model with n features, of which all but the root are optional; more lines may follow it.
func free(n int, lines ...string) string {
	text := "root F0\n"
	for i := 1; i < n; i++ {
		text += "optional F0 F" + strconv.Itoa(i) + "\n"
	}
	return text + strings.Join(lines, "\n")
}

// family is a model with its products, rising.
type family struct {
	api.Model
	n        int
	products []uint32
}

// familyOf is a model with exactly these products, each of which has the root.
func familyOf(t *testing.T, n int, products ...uint32) family {
	t.Helper()
	alternatives := []string{"0"}
	for _, c := range products {
		var literals []string
		for i := range n {
			literals = append(literals, [...]string{"!", ""}[c>>i&1]+"F"+strconv.Itoa(i))
		}
		alternatives = append(alternatives, strings.Join(literals, " & "))
	}
	return family{parsed(t, free(n, "require "+strings.Join(alternatives, " | "))), n, products}
}

// families are some models, and more of up to six features whose products are chosen by dice.
func families(t *testing.T, more int) []family {
	t.Helper()
	l := []family{
		{parsed(t, phone), 5, []uint32{11, 19, 23}},
		familyOf(t, 3),
		familyOf(t, 1),
		familyOf(t, 1, 1),
		familyOf(t, 2, 1, 3),
		familyOf(t, 4, 1, 3, 5, 7, 9, 11, 13, 15),
		familyOf(t, 4, 3, 5, 9),
		familyOf(t, 24, 1, 1<<23+1, 1<<24-1),
	}
	d := dice(314159265358979323)
	for range more {
		n := 1 + d.roll(6)
		among := 1 + d.roll(8)
		var products []uint32
		for c := uint32(1); c < 1<<n; c += 2 {
			if d.roll(8) < among {
				products = append(products, c)
			}
		}
		l = append(l, familyOf(t, n, products...))
	}
	return l
}

// each calls check for families, and for all numbers of features that a combination may have.
func each(t *testing.T, more int, check func(f family, k int)) {
	t.Helper()
	for _, f := range families(t, more) {
		for k := 1; k <= 3; k++ {
			check(f, k)
		}
	}
}

// dice gives numbers that look like chance, the same ones in each run.
type dice uint64

func (d *dice) roll(n int) int {
	*d ^= *d << 13
	*d ^= *d >> 7
	*d ^= *d << 17
	return int(*d >> 1 % dice(n))
}

// list is a list of products, which may repeat, and have bits that are no features.
func (d *dice) list(f family, count int) []uint32 {
	var l []uint32
	for range min(count, count*len(f.products)) {
		noise := uint32(d.roll(1<<32)) << f.n
		l = append(l, f.products[d.roll(len(f.products))]|noise)
	}
	return l
}

// plain is a list without bits that are no features.
func (f family) plain(l []uint32) []uint32 {
	var plain []uint32
	for _, c := range l {
		plain = append(plain, c&(1<<f.n-1))
	}
	return plain
}

func agrees(c uint32, x api.Cube) bool { return c&x.On == x.On && c&x.Off == 0 }

// covers reports whether a list covers a combination.
func covers(l []uint32, x api.Cube) bool {
	return slices.ContainsFunc(l, func(c uint32) bool { return agrees(c, x) })
}

// combinations are all valid ones of k features, in order.
func (f family) combinations(k int) []api.Cube {
	var l []api.Cube
	for _, set := range sets(f.n, k) {
		for on, more := uint32(0), true; more; more = on != 0 {
			if x := (api.Cube{On: on, Off: set &^ on}); covers(f.products, x) {
				l = append(l, x)
			}
			on = (on - set) & set // the next part of the set
		}
	}
	return l
}

// sets are the sets of k features, rising.
func sets(n, k int) []uint32 {
	l := []uint32{0}
	for range k {
		var more []uint32
		for _, set := range l {
			for i := bits.Len32(set); i < n; i++ {
				more = append(more, set|1<<i)
			}
		}
		l = more
	}
	slices.Sort(l)
	return l
}

// missing are the combinations that a list does not cover.
func (f family) missing(k int, l []uint32) []api.Cube {
	return slices.DeleteFunc(f.combinations(k), func(x api.Cube) bool { return covers(l, x) })
}

// gain is that of a product for a list.
func (f family) gain(k int, c uint32, l []uint32) int {
	count := 0
	for _, x := range f.missing(k, l) {
		if agrees(c, x) {
			count++
		}
	}
	return count
}
