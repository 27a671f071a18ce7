package sample

import (
	"cmp"
	"math/bits"
	"slices"

	"motley/api"
	"motley/diagram"
)

// Bound returns a certificate: valid combinations that exclude each other, those first with which few products agree.
func Bound(m api.Model, t int) ([]api.Cube, api.Errno) {
	f, e := familyFor(m, t)
	if e != api.OK {
		return nil, e
	}
	counts := map[api.Cube]uint32{}
	var l []api.Cube
	for x, count := range f.combinations() {
		counts[x] = count
		l = append(l, x)
	}
	slices.SortFunc(l, func(a, b api.Cube) int {
		return cmp.Or(cmp.Compare(counts[a], counts[b]), compare(a, b))
	})
	p := proof{products: f.products}
	var taken []api.Cube
	for _, x := range l {
		if p.takes(x) {
			taken = append(taken, x)
		}
	}
	return taken, api.OK
}

// Proves reports whether a list is a certificate.
func Proves(m api.Model, t int, l []api.Cube) (bool, api.Errno) {
	f, e := familyFor(m, t)
	if e != api.OK {
		return false, e
	}
	p := proof{products: f.products}
	for _, x := range l {
		if !f.combines(x) || !p.takes(x) {
			return false, api.OK
		}
	}
	return true, api.OK
}

// combines reports whether a cube fixes t features of the model, none of them twice.
func (f family) combines(x api.Cube) bool {
	const every = 1<<api.MaxFeatures - 1
	set := (x.On | x.Off) & every
	return x.On&x.Off&every == 0 && set < 1<<f.features && bits.OnesCount32(set) == f.t
}

// proof is a certificate in the making.
type proof struct {
	products diagram.D
	claimed  diagram.D // the products that agree with a combination of the certificate
}

// takes adds a combination, unless it is not valid or does not exclude all those before.
func (p *proof) takes(x api.Cube) bool {
	if has(p.claimed, x) || !has(p.products, x) {
		return false
	}
	p.claimed = p.claimed.Or(p.products.And(diagram.Cube(x.On, x.Off)))
	return true
}

// has reports whether a configuration of a set agrees with a combination. Bound asks this of thousands of them, so no
// diagram is made for the answer.
func has(d diagram.D, x api.Cube) bool {
	return diagram.Fold(d, false, true, func(i int, low, high bool) bool {
		return low && x.On>>i&1 == 0 || high && x.Off>>i&1 == 0
	})
}
