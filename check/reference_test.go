package check_test

import (
	"cmp"
	"maps"
	"slices"

	"motley/api"
	"motley/check"
	"motley/diagram"
	"motley/syntax"
)

// This file has the facts of one configuration, as the chapter says them: without tables of names, and with loops that
// are executed again and again. It takes a tree without conditions.

// where is a node with its path.
type where struct {
	syntax.Node
	path []int
}

// reference is the program of one configuration.
type reference struct {
	nodes []where // in the order of Walk
	facts map[check.Fact]bool
}

// referred are the facts of a configuration.
func referred(x syntax.Tree, c uint32) []check.Fact {
	r := newReference(x, c)
	if len(r.nodes) == 0 {
		return nil
	}
	r.declarations()
	for _, n := range r.nodes {
		r.node(n)
	}
	for _, n := range r.nodes {
		if n.Kind == api.Fn {
			r.fn(n)
		}
	}
	return slices.SortedFunc(maps.Keys(r.facts), func(a, b check.Fact) int {
		return cmp.Or(cmp.Compare(a.Tok, b.Tok), cmp.Compare(a.Kind, b.Kind), cmp.Compare(a.Other, b.Other))
	})
}

func newReference(x syntax.Tree, c uint32) *reference {
	r := &reference{facts: map[check.Fact]bool{}}
	for path, n := range syntax.Walk(syntax.Project(x, c)) {
		r.nodes = append(r.nodes, where{n, path})
	}
	return r
}

func (r *reference) add(kind uint8, tok, other int) {
	r.facts[check.Fact{Kind: kind, Tok: tok, Other: other, Cond: diagram.True()}] = true
}

func (r *reference) fail(code api.Code, tok int) { r.add(api.FactError, tok, int(code)) }

// at is the node with a path.
func (r *reference) at(path []int) where {
	for _, n := range r.nodes {
		if slices.Equal(n.path, path) {
			return n
		}
	}
	panic("no such node")
}

func (r *reference) parent(n where) where { return r.at(n.path[:len(n.path)-1]) }

func (r *reference) kids(n where, slot int) []where {
	var l []where
	for k, kid := range n.Kids {
		if kid.Slot == slot {
			l = append(l, where{kid, append(slices.Clone(n.path), k)})
		}
	}
	return l
}

func isDeclaration(n where) bool {
	return n.Kind == api.Var || n.Kind == api.Fn || n.Kind == api.Param
}

// scope is the path of a scope: that of the Program, of a Fn, or of a Block in it.
func (r *reference) scope(n where) []int {
	p := r.parent(n)
	if p.Kind == api.Block && r.parent(p).Kind == api.Fn {
		return r.parent(p).path
	}
	return p.path
}

// counts reports whether a declaration counts.
func (r *reference) counts(n where) bool {
	for _, o := range r.nodes {
		if o.Tok == n.Tok {
			return true
		}
		if isDeclaration(o) && o.Text == n.Text && slices.Equal(r.scope(o), r.scope(n)) {
			return false
		}
	}
	panic("no such declaration")
}

func (r *reference) isGlobal(n where) bool { return len(n.path) == 2 }

func isPrefix(p, path []int) bool { return len(p) <= len(path) && slices.Equal(p, path[:len(p)]) }

// sees reports whether a declaration is seen at a place.
func (r *reference) sees(place where, d where) bool {
	inFn := r.at(place.path[:2]).Kind == api.Fn
	switch {
	case !isDeclaration(d) || !r.counts(d):
		return false
	case r.isGlobal(d) && !inFn:
		return d.Kind == api.Var && d.path[1] < place.path[1]
	case r.isGlobal(d):
		return true
	case d.Kind == api.Param:
		return isPrefix(d.path[:2], place.path)
	}
	block := d.path[:len(d.path)-1]
	return isPrefix(block, place.path) && len(place.path) > len(block) && place.path[len(block)] > d.path[len(block)]
}

// meant is the declaration of a use.
func (r *reference) meant(n where) (where, bool) {
	var best where
	found := false
	for _, d := range r.nodes {
		if d.Kind != api.Program && d.Text == n.Text && r.sees(n, d) {
			if !found || len(r.scope(d)) > len(r.scope(best)) {
				best, found = d, true
			}
		}
	}
	return best, found
}

// inConstant reports whether a node is in the value of a global Var.
func (r *reference) inConstant(n where) bool {
	return len(n.path) > 2 && r.at(n.path[:2]).Kind == api.Var
}

// examined reports whether a node is not in a Call that is in the value of a global Var.
func (r *reference) examined(n where) bool {
	for k := 1; k < len(n.path); k++ {
		if o := r.at(n.path[:k]); o.Kind == api.Call && r.inConstant(o) {
			return false
		}
	}
	return true
}

func (r *reference) declarations() {
	main := false
	for _, n := range r.nodes {
		if !isDeclaration(n) {
			continue
		}
		if !r.counts(n) {
			r.fail(api.CodeTwice, n.Tok)
			continue
		}
		if r.isGlobal(n) && n.Kind == api.Fn && n.Text == "main" {
			main = len(r.kids(n, 0)) == 0 && len(r.kids(n, 1)) == 0
		}
	}
	if !main {
		r.fail(api.CodeMain, -1)
	}
}

func isExpression(n where) bool { return n.Kind >= api.Binary }

func (r *reference) isStatement(n where) bool { return r.parent(n).Kind == api.Block }

// node says what there is to be said of a node by itself.
func (r *reference) node(n where) {
	if !r.examined(n) {
		return
	}
	if r.inConstant(n) && (n.Kind == api.Call || n.Kind == api.Read) {
		r.fail(api.CodeConst, n.Tok)
		return
	}
	if n.Kind == api.Name || n.Kind == api.Assign || n.Kind == api.Call {
		r.use(n)
	}
	if isExpression(n) && !(n.Kind == api.Call && r.isStatement(n)) {
		if t := r.typeOf(n); t != 0 {
			r.add(api.FactType, n.Tok, int(t))
		}
	}
	r.requirements(n)
}

func (r *reference) use(n where) {
	d, found := r.meant(n)
	if !found {
		r.fail(api.CodeUnknown, n.Tok)
		return
	}
	r.add(api.FactUse, n.Tok, d.Tok)
	if d.Kind == api.Fn && n.Kind != api.Call || d.Kind != api.Fn && n.Kind == api.Call {
		r.fail(api.CodeKind, n.Tok)
	}
}

// written is the type of a declaration; of a Fn that of its result.
func (r *reference) written(n where) uint8 {
	slot := 0
	if n.Kind == api.Fn {
		slot = 1
	}
	for _, k := range r.kids(n, slot) {
		if k.Text == "int" {
			return api.TypeInt
		}
		return api.TypeBool
	}
	return 0
}

func (r *reference) typeOf(n where) uint8 {
	switch n.Kind {
	case api.Number:
		return api.TypeInt
	case api.Bool:
		return api.TypeBool
	case api.Read:
		if !r.inConstant(n) {
			return api.TypeInt
		}
	case api.Name:
		if d, found := r.meant(n); found && d.Kind != api.Fn {
			return r.written(d)
		}
	case api.Call:
		if d, found := r.meant(n); found && d.Kind == api.Fn && !r.inConstant(n) {
			return r.written(d)
		}
	case api.Unary:
		if n.Text == "!" {
			return api.TypeBool
		}
		return api.TypeInt
	case api.Binary:
		switch n.Text {
		case "+", "-", "*", "/", "%":
			return api.TypeInt
		}
		return api.TypeBool
	}
	return 0
}

func (r *reference) require(n where, want uint8) {
	if have := r.typeOf(n); want != 0 && have != 0 && want != have {
		r.fail(api.CodeType, n.Tok)
	}
}

func (r *reference) requirements(n where) {
	first, second := r.kids(n, 0), r.kids(n, 1)
	switch n.Kind {
	case api.Var:
		for _, k := range second {
			r.require(k, r.written(n))
		}
	case api.Assign:
		if d, found := r.meant(n); found && d.Kind != api.Fn {
			r.require(first[0], r.written(d))
		}
	case api.If, api.While, api.Assert:
		r.require(first[0], api.TypeBool)
	case api.Return:
		want := r.written(r.at(n.path[:2]))
		if len(first) > 0 {
			r.require(first[0], want)
		}
		if (len(first) > 0) != (want != 0) {
			r.fail(api.CodeReturn, n.Tok)
		}
	case api.Call:
		r.call(n, first)
	case api.Unary:
		r.require(first[0], r.typeOf(n))
	case api.Binary:
		switch n.Text {
		case "==", "!=":
			r.require(second[0], r.typeOf(first[0]))
		case "&&", "||":
			r.require(first[0], api.TypeBool)
			r.require(second[0], api.TypeBool)
		default:
			r.require(first[0], api.TypeInt)
			r.require(second[0], api.TypeInt)
		}
	}
}

func (r *reference) call(n where, args []where) {
	d, found := r.meant(n)
	if !found || d.Kind != api.Fn {
		return
	}
	params := r.kids(d, 0)
	if len(args) != len(params) {
		r.fail(api.CodeArgs, n.Tok)
	}
	for k := range min(len(args), len(params)) {
		r.require(args[k], r.written(params[k]))
	}
	if r.written(d) == 0 && !r.isStatement(n) {
		r.fail(api.CodeType, n.Tok)
	}
}

// reaching are pairs of a local variable and a definition that reaches a place, by their tokens; nil if the place is
// unreachable.
type reaching map[[2]int]bool

func united(a, b reaching) reaching {
	if a == nil {
		return b
	}
	out := maps.Clone(a)
	maps.Copy(out, b)
	return out
}

// defined is the state behind a definition.
func (s reaching) defined(v, tok int) reaching {
	if s == nil {
		return nil
	}
	out := reaching{{v, tok}: true}
	for k := range s {
		if k[0] != v {
			out[k] = true
		}
	}
	return out
}

func (r *reference) fn(n where) {
	s := reaching{}
	for _, p := range r.kids(n, 0) {
		if r.counts(p) {
			s = s.defined(p.Tok, p.Tok)
		}
	}
	s = r.after(r.kids(n, 2)[0], s)
	if s != nil && r.written(n) != 0 {
		r.fail(api.CodeFall, n.Tok)
	}
}

// reads says what reaches the Names of an expression.
func (r *reference) reads(n where, s reaching) {
	if n.Kind == api.Name {
		if d, found := r.meant(n); found && d.Kind != api.Fn && !r.isGlobal(d) {
			for k := range s {
				if k[0] == d.Tok {
					r.add(api.FactFlow, n.Tok, k[1])
					if d.Kind == api.Var && k[1] == d.Tok && len(r.kids(d, 1)) == 0 {
						r.fail(api.CodeInit, n.Tok)
					}
				}
			}
		}
	}
	for _, k := range r.kids(n, 0) {
		r.reads(k, s)
	}
	for _, k := range r.kids(n, 1) {
		r.reads(k, s)
	}
}

// after is the state after a statement.
func (r *reference) after(n where, s reaching) reaching {
	first, second := r.kids(n, 0), r.kids(n, 1)
	switch n.Kind {
	case api.Block:
		return r.afterBlock(first, s)
	case api.Var:
		for _, k := range second {
			r.reads(k, s)
		}
		if r.counts(n) {
			return s.defined(n.Tok, n.Tok)
		}
		return s
	case api.If:
		r.reads(first[0], s)
		a, b := r.after(second[0], s), s
		if rest := r.kids(n, 2); len(rest) > 0 {
			b = r.after(rest[0], s)
		}
		return united(a, b)
	case api.While:
		for {
			more := united(s, r.after(second[0], s))
			if maps.Equal(more, s) {
				break
			}
			s = more
		}
		r.reads(first[0], s)
		if first[0].Kind == api.Bool && first[0].Text == "true" {
			return nil
		}
		return s
	}
	for _, k := range first {
		r.reads(k, s)
	}
	if n.Kind == api.Return {
		return nil
	}
	if d, found := r.meant(n); n.Kind == api.Assign && found && d.Kind != api.Fn && !r.isGlobal(d) {
		return s.defined(d.Tok, n.Tok)
	}
	return s
}

func (r *reference) afterBlock(l []where, s reaching) reaching {
	for k, n := range l {
		before := s
		s = r.after(n, s)
		if before != nil && s == nil && k+1 < len(l) {
			r.fail(api.CodeDead, l[k+1].Tok)
		}
	}
	if s == nil {
		return nil
	}
	out := reaching{}
	for k := range s {
		seen := true
		for _, n := range l {
			seen = seen && n.Tok != k[0]
		}
		if seen {
			out[k] = true
		}
	}
	return out
}

// faces is the interface of the program, without conditions.
func (r *reference) faces() []check.Decl {
	var l []check.Decl
	for _, n := range r.nodes {
		if !isDeclaration(n) || !r.isGlobal(n) || !r.counts(n) {
			continue
		}
		d := check.Decl{Kind: n.Kind, Name: n.Text, Tok: n.Tok, Type: r.written(n)}
		if n.Kind == api.Fn {
			for _, p := range r.kids(n, 0) {
				d.Params = append(d.Params, r.written(p))
			}
		}
		l = append(l, d)
	}
	slices.SortFunc(l, func(a, b check.Decl) int { return cmp.Compare(a.Tok, b.Tok) })
	return l
}

// calls are the tokens of functions, and of those that they call.
func (r *reference) calls() map[[2]int]bool {
	out := map[[2]int]bool{}
	for _, n := range r.nodes {
		if n.Kind != api.Call || r.at(n.path[:2]).Kind != api.Fn {
			continue
		}
		if d, found := r.meant(n); found && d.Kind == api.Fn {
			out[[2]int{r.at(n.path[:2]).Tok, d.Tok}] = true
		}
	}
	return out
}

// reached are the tokens of the functions that are called from main on.
func (r *reference) reached() map[int]bool {
	out := map[int]bool{}
	for _, n := range r.nodes {
		if n.Kind == api.Fn && n.Text == "main" && r.counts(n) {
			out[n.Tok] = true
		}
	}
	for range r.nodes {
		for c := range r.calls() {
			if out[c[0]] {
				out[c[1]] = true
			}
		}
	}
	return out
}

// unused are the tokens of the declarations to which no use refers.
func (r *reference) unused() map[int]bool {
	out := map[int]bool{}
	for _, n := range r.nodes {
		if isDeclaration(n) && r.counts(n) && !(r.isGlobal(n) && n.Text == "main") {
			out[n.Tok] = true
		}
	}
	for _, n := range r.nodes {
		if n.Kind == api.Name || n.Kind == api.Assign || n.Kind == api.Call {
			if inCall := r.inConstant(n) && n.Kind == api.Call; !inCall && r.examined(n) {
				if d, found := r.meant(n); found {
					delete(out, d.Tok)
				}
			}
		}
	}
	return out
}
