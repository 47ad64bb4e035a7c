package print

import (
	"math/rand"

	"treadmill/api"
	"treadmill/tree"
)

func number(n int64) api.Expr             { return api.Expr{Op: api.ExNum, N: n} }
func truth(n int64) api.Expr              { return api.Expr{Op: api.ExBool, N: n} }
func name(s string) api.Expr              { return api.Expr{Op: api.ExName, S: s} }
func made(op int, x ...api.Expr) api.Expr { return api.Expr{Op: op, X: x} }
func asked(q, s string, x ...api.Expr) api.Expr {
	return api.Expr{Op: api.ExCall, Q: q, S: s, X: x}
}
func printed(e api.Expr) api.Stmt { return api.Stmt{Op: api.StPrint, E: e} }

// inBody tells a file whose only function has some statements.
func inBody(l ...api.Stmt) api.File {
	return api.File{Name: "p", Funcs: []api.Func{{Name: "f", Body: l}}}
}

// chain tells an expression of n nodes, each within the one ahead.
func chain(n int) api.Expr {
	e := name("x")
	for range n - 1 {
		e = made(api.ExNeg, e)
	}
	return e
}

// tower tells n statements, each within the one ahead.
func tower(op, n int) api.Stmt {
	s := api.Stmt{Op: op, E: truth(1)}
	for range n - 1 {
		s = api.Stmt{Op: op, E: truth(1), Body: []api.Stmt{s}}
	}
	return s
}

// endless tells an expression that is part of itself.
func endless(op, n int) api.Expr {
	e := api.Expr{Op: op, X: make([]api.Expr, n)}
	if op == api.ExCall {
		e.S = "f"
	}
	for i := range e.X {
		e.X[i] = e
	}
	return e
}

// endlessStmt tells a statement that stands in itself.
func endlessStmt(op int) api.Stmt {
	s := api.Stmt{Op: op, E: truth(1), Body: make([]api.Stmt, 1)}
	s.Body[0] = s
	return s
}

// maker makes right trees.
type maker struct{ *rand.Rand }

func newMaker(seed int64) maker { return maker{rand.New(rand.NewSource(seed))} }

func (m maker) pick(l ...string) string { return l[m.Intn(len(l))] }

func (m maker) name() string { return m.pick("a", "b", "F", "_", "x1", "main", "abcdefghijklmnop") }

func (m maker) expr(deep int) api.Expr {
	op := 1 + m.Intn(api.ExOr)
	if deep <= 0 {
		op = 1 + m.Intn(api.ExName)
	}
	e, n := api.Expr{Op: op}, max(tree.Parts(op), 0)
	switch op {
	case api.ExNum:
		e.N = m.Int63() >> m.Intn(63)
	case api.ExBool:
		e.N = m.Int63n(2)
	case api.ExName:
		e.S = m.name()
	case api.ExCall:
		e.S, n = m.name(), m.Intn(4)
		if m.Intn(2) == 0 {
			e.Q = m.name()
		}
	}
	for range n {
		e.X = append(e.X, m.expr(deep-1))
	}
	return e
}

func (m maker) stmt(deep int) api.Stmt {
	s := api.Stmt{Op: 1 + m.Intn(api.StNext)}
	if s.Op != api.StBreak && s.Op != api.StNext && (s.Op != api.StReturn || m.Intn(2) == 0) {
		s.E = m.expr(3)
	}
	switch s.Op {
	case api.StDef, api.StSet:
		s.S = m.name()
	case api.StIf:
		s.Body, s.Else = m.stmts(deep-1), m.stmts(deep-1)
	case api.StFor:
		s.Body = m.stmts(deep - 1)
	case api.StCall:
		s.E = asked(m.pick("", "q"), m.name(), s.E)
	}
	return s
}

func (m maker) stmts(deep int) []api.Stmt {
	var l []api.Stmt
	for range m.Intn(max(1, 2*deep)) {
		l = append(l, m.stmt(deep))
	}
	return l
}

// file tells one of at most so many functions.
func (m maker) file(most int) api.File {
	f := api.File{Name: m.name()}
	for range m.Intn(api.MaxImports + 1) {
		f.Imports = append(f.Imports, m.pick("q", "if", "main", "abcdefghijklmnop"))
	}
	for range m.Intn(most + 1) {
		g := api.Func{Name: m.name(), Result: api.Type(m.Intn(3)), Body: m.stmts(2 + m.Intn(3))}
		for range m.Intn(api.MaxParams + 1) {
			g.Params = append(g.Params, api.Param{Name: m.name(), T: api.Type(1 + m.Intn(2))})
		}
		f.Funcs = append(f.Funcs, g)
	}
	return f
}

// spoil changes one thing of one node of an expression, in place.
func (m maker) spoil(e *api.Expr) {
	for len(e.X) > 0 && m.Intn(3) > 0 {
		e = &e.X[m.Intn(len(e.X))]
	}
	switch m.Intn(5) {
	case 0:
		e.Op = m.Intn(24) - 2
	case 1:
		e.N = m.Int63n(5) - 2
	case 2:
		e.S = m.pick("", "if", "1", "a.b", "y", "abcdefghijklmnopq")
	case 3:
		e.Q = m.pick("", "if", "1", "a.b", "y", "abcdefghijklmnopq")
	case 4:
		e.X = e.X[:m.Intn(len(e.X)+1)]
	}
}
