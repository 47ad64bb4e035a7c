package check

import (
	"slices"

	"treadmill/api"
	"treadmill/types"
)

// checker asks of what is right whether it is well typed, where it stands.
type checker struct {
	*types.Scope
	// own are the file's functions, others by their paths those that it may call.
	own    []api.Sig
	others map[string]api.Import
	// result is what the function tells.
	result api.Type
	// loops is how many StFor stand around.
	loops int
}

// within asks something in one block more.
func (c *checker) within(ask func() bool) bool {
	c.Open()
	defer c.Close()
	return ask()
}

// function asks for all of one: its parameters stand in one block with its statements.
func (c *checker) function(f api.Func) bool {
	if f.Result != api.NoType && !Ends(f.Body) {
		return false
	}
	return c.within(func() bool {
		for _, p := range f.Params {
			if !c.Def(p.Name, p.T) {
				return false
			}
		}
		return c.statements(f.Body)
	})
}

func (c *checker) block(l []api.Stmt) bool {
	return c.within(func() bool { return c.statements(l) })
}

func (c *checker) loop(l []api.Stmt) bool {
	c.loops++
	defer func() { c.loops-- }()
	return c.block(l)
}

func (c *checker) statements(l []api.Stmt) bool {
	for _, s := range l {
		if !c.stmt(s) {
			return false
		}
	}
	return true
}

func (c *checker) stmt(s api.Stmt) bool {
	switch s.Op {
	case api.StDef:
		t, ok := c.value(s.E)
		return ok && c.Def(s.S, t)
	case api.StSet:
		t, _, ok := c.Find(s.S)
		return ok && c.is(s.E, t)
	case api.StIf:
		return c.is(s.E, api.Bool) && c.block(s.Body) && c.block(s.Else)
	case api.StFor:
		return c.is(s.E, api.Bool) && c.loop(s.Body)
	case api.StReturn:
		return c.back(s.E)
	case api.StPrint:
		_, ok := c.value(s.E)
		return ok
	case api.StCall:
		_, ok := c.expr(s.E)
		return ok
	}
	return c.loops > 0
}

// back asks for what a StReturn hands back.
func (c *checker) back(e api.Expr) bool {
	if c.result == api.NoType {
		// A call without a result is not none, though its type is NoType, too.
		return e.Op == 0
	}
	return c.is(e, c.result)
}

// is asks whether an expression is of a type.
func (c *checker) is(e api.Expr, want api.Type) bool {
	t, ok := c.expr(e)
	return ok && t == want
}

// value tells the type of an expression that is Int or Bool.
func (c *checker) value(e api.Expr) (api.Type, bool) {
	t, ok := c.expr(e)
	return t, ok && (t == api.Int || t == api.Bool)
}

// expr tells an expression's type; false of one that has none.
func (c *checker) expr(e api.Expr) (api.Type, bool) {
	switch e.Op {
	case api.ExNum:
		return api.Int, true
	case api.ExBool:
		return api.Bool, true
	case api.ExName:
		t, _, ok := c.Find(e.S)
		return t, ok
	}
	parts, ok := c.parts(e.X)
	if !ok {
		return api.NoType, false
	}
	if e.Op == api.ExCall {
		return c.call(e, parts)
	}
	return made(e.Op, parts)
}

// parts tells the types of expressions; false, where one has none.
func (c *checker) parts(l []api.Expr) ([]api.Type, bool) {
	var all []api.Type
	for _, e := range l {
		t, ok := c.expr(e)
		if !ok {
			return nil, false
		}
		all = append(all, t)
	}
	return all, true
}

func (c *checker) call(e api.Expr, args []api.Type) (api.Type, bool) {
	s, ok := types.Look(c.called(e.Q), e.S)
	return told(s.Result, ok && types.Takes(s, args))
}

// called tells the functions that may be called with a package's name ahead, or with none.
func (c *checker) called(q string) []api.Sig {
	if q == "" {
		return c.own
	}
	return c.others[q].Sigs
}

// made tells the type of what an op makes of its parts.
func made(op int, parts []api.Type) (api.Type, bool) {
	switch op {
	case api.ExNeg, api.ExMul, api.ExDiv, api.ExRem, api.ExAdd, api.ExSub:
		return told(api.Int, each(parts, api.Int))
	case api.ExLt, api.ExLe, api.ExGt, api.ExGe:
		return told(api.Bool, each(parts, api.Int))
	case api.ExNot, api.ExAnd, api.ExOr:
		return told(api.Bool, each(parts, api.Bool))
	case api.ExEq, api.ExNe:
		return told(api.Bool, each(parts, api.Int) || each(parts, api.Bool))
	}
	return api.NoType, false
}

func each(l []api.Type, want api.Type) bool {
	return !slices.ContainsFunc(l, func(t api.Type) bool { return t != want })
}

// told tells a type, if there is one.
func told(t api.Type, ok bool) (api.Type, bool) {
	if !ok {
		return api.NoType, false
	}
	return t, true
}
