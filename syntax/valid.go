package syntax

import (
	"motley/api"
	"motley/diagram"
)

// Valid reports whether a tree is valid.
func Valid(t Tree) bool {
	if !rootFits(t.Kids) || !diagsFit(t.Diags, Whole(t)) {
		return false
	}
	taken := map[int]diagram.D{} // by the tokens of nodes: where they are those of one
	for path, n := range each(t.Kids) {
		if len(path) > api.MaxTokens || !n.fits() || taken[n.Tok].Meets(n.Cond) {
			return false
		}
		taken[n.Tok] = taken[n.Tok].Or(n.Cond)
	}
	return true
}

func rootFits(kids []Node) bool {
	if len(kids) == 0 {
		return true
	}
	return len(kids) == 1 && kids[0].Kind == api.Program && kids[0].Slot == 0 && !kids[0].Cond.Empty()
}

// diagsFit reports whether diagnostics are as they should be beside a program in some configurations.
func diagsFit(l []Diag, whole diagram.D) bool {
	for k, g := range l {
		switch {
		case g.Code != api.CodeSize && g.Code != api.CodeSyntax && g.Code != api.CodeNest:
			return false
		case g.Tok < 0 || g.Cond.Empty() || g.Cond.Meets(whole):
			return false
		case k > 0 && l[k-1].fault().compare(g.fault()) >= 0:
			return false
		}
		whole = whole.Or(g.Cond)
	}
	return true
}

func (g Diag) fault() fault { return fault{g.Tok, g.Code} }

// fits reports whether a node is as its kind says, and its kids are such as it may have. (That it has a kind was seen
// at its parent.)
func (n Node) fits() bool {
	if !textFits(n.Kind, n.Text) || !n.hasTok() {
		return false
	}
	for k, kid := range n.Kids {
		if k > 0 && n.Kids[k-1].key().compare(kid.key()) >= 0 || !n.mayHave(kid) {
			return false
		}
	}
	for k, s := range shapes[n.Kind].slots {
		if !n.slotFits(k, s) {
			return false
		}
	}
	return true
}

func (n Node) hasTok() bool {
	if n.Kind == api.Program {
		return n.Tok == -1
	}
	return n.Tok >= 0
}

// mayHave reports whether a node may be a kid.
func (n Node) mayHave(kid Node) bool {
	return 0 <= kid.Slot && kid.Slot < mostSlots && shapes[n.Kind].slots[kid.Slot].kinds>>kid.Kind&1 == 1 &&
		!kid.Cond.Empty() && kid.Cond.Within(n.Cond)
}

// slotFits reports whether a slot has as many kids as it may have, in each configuration.
func (n Node) slotFits(slot int, s slot) bool {
	if s.many == anyNumber {
		return true
	}
	union := diagram.False()
	for _, d := range n.conds(slot) {
		if union.Meets(d) {
			return false
		}
		union = union.Or(d)
	}
	return s.many != oneKid || union.Same(n.Cond)
}
