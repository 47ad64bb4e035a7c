package check

import (
	"math/rand"

	"treadmill/api"
	"treadmill/tree"
)

func number(n int64) api.Expr                   { return api.Expr{Op: api.ExNum, N: n} }
func truth(n int64) api.Expr                    { return api.Expr{Op: api.ExBool, N: n} }
func name(s string) api.Expr                    { return api.Expr{Op: api.ExName, S: s} }
func joined(op int, x ...api.Expr) api.Expr     { return api.Expr{Op: op, X: x} }
func asked(q, s string, x ...api.Expr) api.Expr { return api.Expr{Op: api.ExCall, Q: q, S: s, X: x} }
func printed(e api.Expr) api.Stmt               { return api.Stmt{Op: api.StPrint, E: e} }
func defined(s string, e api.Expr) api.Stmt     { return api.Stmt{Op: api.StDef, S: s, E: e} }
func set(s string, e api.Expr) api.Stmt         { return api.Stmt{Op: api.StSet, S: s, E: e} }
func back(e api.Expr) api.Stmt                  { return api.Stmt{Op: api.StReturn, E: e} }
func again(e api.Expr, l ...api.Stmt) api.Stmt  { return api.Stmt{Op: api.StFor, E: e, Body: l} }

// inBody tells a file whose only function has some statements.
func inBody(l ...api.Stmt) api.File {
	return api.File{Name: "p", Funcs: []api.Func{{Name: "f", Body: l}}}
}

// chain tells an expression of n nodes, each within the one ahead.
func chain(op, n int, last api.Expr) api.Expr {
	for range n - 1 {
		last = joined(op, last)
	}
	return last
}

// endless tells an expression that is part of itself.
func endless(op, n int) api.Expr {
	e := api.Expr{Op: op, X: make([]api.Expr, n)}
	if op == api.ExCall {
		e.S = "f"
	}
	for i := range e.X {
		e.X[i] = e
	}
	return e
}

// endlessStmt tells a statement that stands in itself.
func endlessStmt(op int, e api.Expr) api.Stmt {
	s := api.Stmt{Op: op, E: e, Body: make([]api.Stmt, 1), Else: make([]api.Stmt, 1)}
	s.Body[0], s.Else[0] = s, s
	return s
}

// maker makes right files that are mostly well typed. It keeps to names of which Go's own rules say the same: those of variables, functions and packages are unlike.
type maker struct {
	*rand.Rand
	// wrong is how often, of 1000 times, something is made of a wrong type.
	wrong int
	// blocks are the names of variables, as they are found.
	blocks []map[string]api.Type
	own    []api.Sig
	others []api.Import
	result api.Type
	loops  int
}

func newMaker(seed int64, wrong int) *maker {
	return &maker{Rand: rand.New(rand.NewSource(seed)), wrong: wrong}
}

func (m *maker) slips() bool { return m.Intn(1000) < m.wrong }

func (m *maker) pick(l ...string) string { return l[m.Intn(len(l))] }

func (m *maker) variable() string { return m.pick("a", "b", "c", "d", "abcdefghijklmnop") }

func (m *maker) value() api.Type { return api.Type(1 + m.Intn(2)) }

// sigs tells functions of names that rise.
func (m *maker) sigs(names ...string) []api.Sig {
	var l []api.Sig
	for _, s := range names {
		if m.Intn(4) == 0 {
			continue
		}
		g := api.Sig{Name: s, Result: api.Type(m.Intn(3))}
		for range m.Intn(api.MaxParams + 1) {
			g.Params = append(g.Params, m.value())
		}
		l = append(l, g)
	}
	return l
}

// found tells a variable of a type, if it comes upon one.
func (m *maker) found(t api.Type) (string, bool) {
	s := m.variable()
	for i := len(m.blocks) - 1; i >= 0; i-- {
		if is, ok := m.blocks[i][s]; ok {
			return s, is == t
		}
	}
	return s, false
}

func (m *maker) define(s string, t api.Type) {
	m.blocks[len(m.blocks)-1][s] = t
}

// expr tells an expression, that mostly is of a type.
func (m *maker) expr(t api.Type, deep int) api.Expr {
	if m.slips() {
		return m.anyExpr(deep)
	}
	for range 3 {
		if s, ok := m.found(t); ok {
			return name(s)
		}
	}
	if m.Intn(3) == 0 {
		if e, ok := m.callOf(t, deep); ok {
			return e
		}
	}
	if t == api.Int {
		return m.intExpr(deep)
	}
	return m.boolExpr(deep)
}

func (m *maker) anyExpr(deep int) api.Expr {
	switch m.Intn(5) {
	case 0:
		return name(m.variable())
	case 1:
		return asked(m.pick("", "q", "r", "s"), m.pick("F", "G", "h"), m.exprs(deep)...)
	case 2:
		t := m.value()
		return joined(api.ExEq+m.Intn(2), m.expr(t, deep-1), m.expr(3-t, deep-1))
	}
	return m.expr(m.value(), deep-1)
}

func (m *maker) exprs(deep int) []api.Expr {
	var l []api.Expr
	for range m.Intn(4) {
		l = append(l, m.expr(m.value(), deep-1))
	}
	return l
}

func (m *maker) intExpr(deep int) api.Expr {
	if deep <= 0 || m.Intn(4) == 0 {
		return number(m.Int63n(4))
	}
	if op := api.ExMul - 1 + m.Intn(6); op >= api.ExMul {
		return joined(op, m.expr(api.Int, deep-1), m.expr(api.Int, deep-1))
	}
	return joined(api.ExNeg, m.expr(api.Int, deep-1))
}

func (m *maker) boolExpr(deep int) api.Expr {
	if deep <= 0 || m.Intn(4) == 0 {
		return truth(m.Int63n(2))
	}
	t := api.Bool
	op := api.ExEq - 1 + m.Intn(api.ExOr-api.ExEq+2)
	switch {
	case op < api.ExEq:
		return joined(api.ExNot, m.expr(api.Bool, deep-1))
	case op < api.ExLt:
		t = m.value()
	case op < api.ExAnd:
		t = api.Int
	}
	return joined(op, m.expr(t, deep-1), m.expr(t, deep-1))
}

// callOf tells a call of a function that tells a type, or none, if it comes upon one.
func (m *maker) callOf(t api.Type, deep int) (api.Expr, bool) {
	q, l := "", m.own
	if len(m.others) > 0 && m.Intn(2) == 0 {
		i := m.others[m.Intn(len(m.others))]
		q, l = i.Path, i.Sigs
	}
	if deep <= 0 || len(l) == 0 {
		return api.Expr{}, false
	}
	s := l[m.Intn(len(l))]
	if s.Result != t {
		return api.Expr{}, false
	}
	e := asked(q, s.Name)
	for _, p := range s.Params {
		e.X = append(e.X, m.expr(p, deep-1))
	}
	return e, true
}

func (m *maker) block(deep int) []api.Stmt {
	m.blocks = append(m.blocks, map[string]api.Type{})
	l := m.stmts(deep)
	m.blocks = m.blocks[:len(m.blocks)-1]
	return l
}

func (m *maker) stmts(deep int) []api.Stmt {
	var l []api.Stmt
	for range m.Intn(max(1, 2*deep)) {
		l = append(l, m.stmt(deep))
	}
	return l
}

func (m *maker) stmt(deep int) api.Stmt {
	switch op := 1 + m.Intn(api.StNext); op {
	case api.StDef:
		return m.definition()
	case api.StSet:
		t := m.value()
		if s, ok := m.found(t); ok || m.slips() {
			return set(s, m.expr(t, 2))
		}
	case api.StIf:
		return api.Stmt{Op: op, E: m.expr(api.Bool, 2), Body: m.block(deep - 1), Else: m.block(deep - 1)}
	case api.StFor:
		return m.loop(deep)
	case api.StReturn:
		return m.returned()
	case api.StCall:
		if e, ok := m.callOf(api.Type(m.Intn(3)), 2); ok {
			return api.Stmt{Op: op, E: e}
		}
	case api.StBreak, api.StNext:
		if m.loops > 0 || m.slips() {
			return api.Stmt{Op: op}
		}
	}
	return printed(m.expr(m.value(), 3))
}

// definition is mostly of a name that the block has not.
func (m *maker) definition() api.Stmt {
	s, t := m.variable(), m.value()
	if _, there := m.blocks[len(m.blocks)-1][s]; there && !m.slips() {
		return printed(m.expr(t, 2))
	}
	d := defined(s, m.expr(t, 3))
	m.define(s, t)
	return d
}

func (m *maker) loop(deep int) api.Stmt {
	s := again(m.expr(api.Bool, 1))
	if m.Intn(2) == 0 {
		s.E = truth(1)
	}
	m.loops++
	s.Body = m.block(deep - 1)
	m.loops--
	return s
}

func (m *maker) returned() api.Stmt {
	if (m.result == api.NoType) != m.slips() {
		return back(api.Expr{})
	}
	return back(m.expr(max(m.result, api.Int), 2))
}

func (m *maker) function(s api.Sig) api.Func {
	f := api.Func{Name: s.Name, Result: s.Result}
	m.result, m.loops, m.blocks = s.Result, 0, []map[string]api.Type{{}}
	for i, t := range s.Params {
		p := []string{"a", "b", "c", "d"}[i]
		if m.slips() {
			p = m.variable()
		}
		f.Params = append(f.Params, api.Param{Name: p, T: t})
		m.define(p, t)
	}
	f.Body = m.stmts(3)
	if f.Result != api.NoType && !m.slips() {
		f.Body = append(f.Body, m.end())
	}
	return f
}

// end mostly is a statement that ends.
func (m *maker) end() api.Stmt {
	switch m.Intn(4) {
	case 0:
		return api.Stmt{Op: api.StIf, E: m.expr(api.Bool, 1), Body: []api.Stmt{m.end()}, Else: []api.Stmt{m.end()}}
	case 1:
		if m.wrong > 4 && m.Intn(4) == 0 {
			return m.loop(2)
		}
		// Out of this one nobody comes: in no other one it may break or go on.
		around := m.loops
		m.loops = 0
		s := again(truth(1), m.block(1)...)
		m.loops = around
		return s
	}
	return m.returned()
}

// file tells one, and the imports that there are for it.
func (m *maker) file() (api.File, []api.Import) {
	f := api.File{Name: "p"}
	m.own, m.others = m.sigs("F", "G", "g", "h"), nil
	all := []api.Import{{Path: "q", Sigs: m.sigs("F", "G")}, {Path: "r", Sigs: m.sigs("F", "G", "H")}, {Path: "s", Sigs: m.sigs("G")}}
	for _, i := range all {
		if m.Intn(2) == 0 {
			f.Imports = append(f.Imports, i.Path)
			m.others = append(m.others, i)
		}
	}
	if m.slips() {
		f.Imports = append(f.Imports, m.pick("q", "r", "s"))
	}
	for _, s := range m.own {
		if m.slips() {
			s.Name = m.pick("F", "h")
		}
		f.Funcs = append(f.Funcs, m.function(s))
	}
	return f, all
}

// places tells where an expression's nodes stand.
func places(e *api.Expr) []*api.Expr {
	l := []*api.Expr{e}
	for i := range e.X {
		l = append(l, places(&e.X[i])...)
	}
	return l
}

// oddExpr tells any right expression, mostly one that has no type.
func (m *maker) oddExpr(deep int) api.Expr {
	op := 1 + m.Intn(api.ExOr)
	if deep <= 0 {
		op = 1 + m.Intn(api.ExCall)
	}
	e, n := api.Expr{Op: op}, max(tree.Parts(op), 0)
	switch op {
	case api.ExNum:
		e.N = m.Int63()
	case api.ExBool:
		e.N = m.Int63n(2)
	case api.ExName:
		e.S = m.pick("a", "b", "c", "odd", "none", "e")
	case api.ExCall:
		e.S, e.Q, n = m.pick("F", "G", "H", "a"), m.pick("", "q", "r"), m.Intn(3)
	}
	for range n {
		e.X = append(e.X, m.oddExpr(deep-1))
	}
	return e
}
