package model

import (
	"slices"

	"motley/api"
	"motley/formula"
)

// Check returns the first error of a model.
func Check(m api.Model) api.Errno {
	for _, check := range [...]func(api.Model) api.Errno{
		checkFeatures, checkGroups, checkMembers, checkAttributes, checkRequires, checkLimits,
	} {
		if e := check(m); e != api.OK {
			return e
		}
	}
	return api.OK
}

func checkFeatures(m api.Model) api.Errno {
	switch n := len(m.Features); {
	case n == 0:
		return api.ErrArg
	case n > api.MaxFeatures:
		return api.ErrLimit
	}
	for i, f := range m.Features {
		switch {
		case !isName(f.Name):
			return api.ErrName
		case featureNamed(m.Features[:i], f.Name) >= 0:
			return api.ErrTwice
		case !stands(f, i):
			return api.ErrArg
		}
	}
	return api.OK
}

// isName asks for the formula that is nothing but this name, for the names of both are the same.
func isName(s string) bool { return formula.Valid(api.Expr{Op: api.OpName, Name: s}) }

// isIndex reports whether a list of n elements has this one.
func isIndex(i, n int) bool { return 0 <= i && i < n }

// featureNamed is the number of the feature with this name; -1 if there is none.
func featureNamed(l []api.Feature, name string) int {
	return slices.IndexFunc(l, func(f api.Feature) bool { return f.Name == name })
}

// attributeNamed is the number of the attribute with this name; -1 if there is none.
func attributeNamed(l []api.Attribute, name string) int {
	return slices.IndexFunc(l, func(a api.Attribute) bool { return a.Name == name })
}

// stands reports whether a feature with this number may have its kind and its parent.
func stands(f api.Feature, i int) bool {
	switch f.Kind {
	case api.Root:
		return i == 0 && f.Parent == -1
	case api.Mandatory, api.Optional, api.Member:
		return isIndex(f.Parent, i)
	}
	return false
}

func checkGroups(m api.Model) api.Errno {
	if len(m.Groups) > api.MaxGroups {
		return api.ErrLimit
	}
	for k, g := range m.Groups {
		if !fits(g, m.Features, m.Groups[:k]) {
			return api.ErrArg
		}
	}
	return api.OK
}

// fits reports whether a group is valid, with these features, behind earlier groups that are.
func fits(g api.Group, features []api.Feature, earlier []api.Group) bool {
	if !isIndex(g.Parent, len(features)) || len(g.Members) == 0 {
		return false
	}
	taken := members(earlier...)
	for _, i := range g.Members {
		if !isIndex(i, len(features)) || taken>>i&1 == 1 {
			return false
		}
		if f := features[i]; f.Kind != api.Member || f.Parent != g.Parent {
			return false
		}
		taken |= 1 << i
	}
	return 0 <= g.Low && g.Low <= g.High && g.High <= len(g.Members)
}

// members is the set of the features that are in groups.
func members(l ...api.Group) uint32 {
	set := uint32(0)
	for _, g := range l {
		for _, i := range g.Members {
			set |= 1 << i
		}
	}
	return set
}

// checkMembers looks for members without a group.
func checkMembers(m api.Model) api.Errno {
	grouped := members(m.Groups...)
	for i, f := range m.Features {
		if f.Kind == api.Member && grouped>>i&1 == 0 {
			return api.ErrArg
		}
	}
	return api.OK
}

func checkAttributes(m api.Model) api.Errno {
	if len(m.Attributes) > api.MaxAttributes {
		return api.ErrLimit
	}
	for k, a := range m.Attributes {
		switch {
		case !isName(a.Name):
			return api.ErrName
		case attributeNamed(m.Attributes[:k], a.Name) >= 0:
			return api.ErrTwice
		case len(a.Values) != len(m.Features) || slices.ContainsFunc(a.Values, isNoCost):
			return api.ErrArg
		}
	}
	return api.OK
}

func isNoCost(x int64) bool { return x < -api.MaxCost || x > api.MaxCost }

func checkRequires(m api.Model) api.Errno {
	if len(m.Requires) > api.MaxRequires {
		return api.ErrLimit
	}
	for _, e := range m.Requires {
		switch {
		case !formula.Valid(e):
			return api.ErrArg
		case !namesOnly(e, m.Features):
			return api.ErrName
		}
	}
	return api.OK
}

// namesOnly reports whether a formula has no names but those of these features.
func namesOnly(e api.Expr, l []api.Feature) bool {
	for _, s := range formula.Names(e) {
		if featureNamed(l, s) < 0 {
			return false
		}
	}
	return true
}

func checkLimits(m api.Model) api.Errno {
	if len(m.Limits) > api.MaxLimits {
		return api.ErrLimit
	}
	for _, l := range m.Limits {
		if !isIndex(l.Attribute, len(m.Attributes)) || relationSign(l.Rel) == "" {
			return api.ErrArg
		}
	}
	return api.OK
}
