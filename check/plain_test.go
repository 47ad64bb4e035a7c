package check

import (
	"slices"
	"strconv"

	"treadmill/api"
	"treadmill/tree"
)

// plain is the chapter's words once more, with blocks as lists that are copied.
type plain struct {
	blocks []map[string]api.Type
	own    []api.Sig
	all    []api.Import
	result api.Type
	inLoop bool
}

// nothing is what an expression without a type has; types that there are not have texts of their own.
const nothing = "nothing"

func show(t api.Type) string { return strconv.Itoa(int(t)) }

var anInt, aBool = show(api.Int), show(api.Bool)

func (p plain) typeOf(e api.Expr) string {
	var l []string
	for _, x := range e.X {
		l = append(l, p.typeOf(x))
	}
	all := func(s string) bool { return !slices.ContainsFunc(l, func(x string) bool { return x != s }) }
	switch {
	case e.Op == api.ExNum:
		return anInt
	case e.Op == api.ExBool:
		return aBool
	case e.Op == api.ExName:
		for _, b := range slices.Backward(p.blocks) {
			if t, ok := b[e.S]; ok {
				return show(t)
			}
		}
	case e.Op == api.ExCall:
		return p.typeOfCall(e, l)
	case e.Op == api.ExNeg && all(anInt), e.Op >= api.ExMul && e.Op <= api.ExSub && all(anInt):
		return anInt
	case e.Op == api.ExNot && all(aBool), e.Op >= api.ExAnd && all(aBool), e.Op >= api.ExLt && e.Op <= api.ExGe && all(anInt):
		return aBool
	case e.Op == api.ExEq || e.Op == api.ExNe:
		if all(anInt) || all(aBool) {
			return aBool
		}
	}
	return nothing
}

func (p plain) typeOfCall(e api.Expr, args []string) string {
	l := p.own
	if e.Q != "" {
		l = nil
		for _, i := range slices.Backward(p.all) {
			if i.Path == e.Q {
				l = i.Sigs
			}
		}
	}
	for _, s := range l {
		if s.Name != e.S {
			continue
		}
		var params []string
		for _, t := range s.Params {
			params = append(params, show(t))
		}
		if slices.Equal(params, args) {
			return show(s.Result)
		}
		break
	}
	return nothing
}

// takes asks for statements of a block more.
func (p plain) takes(l []api.Stmt) bool {
	p.blocks = append(slices.Clone(p.blocks), map[string]api.Type{})
	return p.takesHere(l)
}

func (p plain) takesHere(l []api.Stmt) bool {
	here := p.blocks[len(p.blocks)-1]
	for _, s := range l {
		t := p.typeOf(s.E)
		ok := false
		switch s.Op {
		case api.StDef:
			_, there := here[s.S]
			ok = (t == anInt || t == aBool) && !there
			here[s.S] = map[string]api.Type{anInt: api.Int, aBool: api.Bool}[t]
		case api.StSet:
			ok = t != nothing && t == p.typeOf(name(s.S))
		case api.StIf:
			ok = t == aBool && p.takes(s.Body) && p.takes(s.Else)
		case api.StFor:
			in := p
			in.inLoop = true
			ok = t == aBool && in.takes(s.Body)
		case api.StReturn:
			ok = p.result != 0 && t == show(p.result) || p.result == 0 && s.E.Op == 0
		case api.StPrint:
			ok = t == anInt || t == aBool
		case api.StCall:
			ok = t != nothing
		case api.StBreak, api.StNext:
			ok = p.inLoop
		}
		if !ok {
			return false
		}
	}
	return true
}

func plainEnds(l []api.Stmt) bool {
	if len(l) == 0 {
		return false
	}
	s := l[len(l)-1]
	return s.Op == api.StReturn || s.Op == api.StIf && plainEnds(s.Body) && plainEnds(s.Else) ||
		s.Op == api.StFor && s.E.Op == api.ExBool && s.E.N == 1 && !plainLeaves(s.Body)
}

func plainLeaves(l []api.Stmt) bool {
	leaves := false
	for _, s := range l {
		leaves = leaves || s.Op == api.StBreak || s.Op == api.StIf && (plainLeaves(s.Body) || plainLeaves(s.Else))
	}
	return leaves
}

func plainFile(f api.File, imports []api.Import) api.Errno {
	if !tree.Right(f) {
		return api.ErrArg
	}
	var p plain
	for _, s := range f.Imports {
		at := slices.IndexFunc(imports, func(i api.Import) bool { return i.Path == s })
		if at < 0 {
			return api.ErrMissing
		}
		p.all = append(p.all, imports[at])
	}
	for i, s := range f.Imports {
		if slices.Contains(f.Imports[:i], s) {
			return api.ErrType
		}
	}
	for _, g := range f.Funcs {
		s := api.Sig{Name: g.Name, Result: g.Result}
		for _, x := range g.Params {
			s.Params = append(s.Params, x.T)
		}
		p.own = append(p.own, s)
	}
	for i, g := range f.Funcs {
		if slices.ContainsFunc(p.own[:i], func(s api.Sig) bool { return s.Name == g.Name }) || !p.takesFunc(g) {
			return api.ErrType
		}
	}
	return api.OK
}

func (p plain) takesFunc(g api.Func) bool {
	first := map[string]api.Type{}
	for _, x := range g.Params {
		first[x.Name] = x.T
	}
	p.blocks, p.result = []map[string]api.Type{first}, g.Result
	return len(first) == len(g.Params) && p.takesHere(g.Body) && (g.Result == 0 || plainEnds(g.Body))
}
