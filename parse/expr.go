package parse

import "treadmill/api"

// maxArgs is how many arguments a call may have.
const maxArgs = 255

// levels is how many kinds of rows there are: the parts of each one are rows of the kind above it.
const levels = 5

var signs = [...]struct {
	s         string
	level, op int
}{
	{"*", 0, api.ExMul}, {"/", 0, api.ExDiv}, {"%", 0, api.ExRem},
	{"+", 1, api.ExAdd}, {"-", 1, api.ExSub},
	{"==", 2, api.ExEq}, {"!=", 2, api.ExNe}, {"<", 2, api.ExLt}, {"<=", 2, api.ExLe}, {">", 2, api.ExGt}, {">=", 2, api.ExGe},
	{"&&", 3, api.ExAnd},
	{"||", 4, api.ExOr},
}

func (r *reader) expr() api.Expr {
	read := r.unary
	for level := range levels {
		read = r.row(read, level)
	}
	return read()
}

// row tells how a row is read of parts with signs of a level between them.
func (r *reader) row(part func() api.Expr, level int) func() api.Expr {
	return func() api.Expr {
		e := part()
		for op := r.op(level); op != 0; op = r.op(level) {
			e = api.Expr{Op: op, X: []api.Expr{e, part()}}
		}
		return e
	}
}

// op takes a sign of a level, and tells its op; 0, if none is next.
func (r *reader) op(level int) int {
	for _, sign := range signs {
		if sign.level == level && r.has(sign.s) {
			return sign.op
		}
	}
	return 0
}

func (r *reader) unary() api.Expr {
	switch {
	case r.has("-"):
		return api.Expr{Op: api.ExNeg, X: []api.Expr{r.unary()}}
	case r.has("!"):
		return api.Expr{Op: api.ExNot, X: []api.Expr{r.unary()}}
	case r.has("true"):
		return truth(1)
	case r.has("false"):
		return truth(0)
	case r.has("("):
		e := r.expr()
		r.must(")")
		return e
	case r.next().Kind == api.WordNum:
		return api.Expr{Op: api.ExNum, N: r.take(api.WordNum).N}
	}
	return r.value()
}

// value reads a call, or a name that none is made of.
func (r *reader) value() api.Expr {
	name := r.name()
	if r.at(".") || r.at("(") {
		return r.call(name)
	}
	return api.Expr{Op: api.ExName, S: name}
}

// call reads what is behind a call's first name.
func (r *reader) call(name string) api.Expr {
	e := api.Expr{Op: api.ExCall, S: name}
	if r.has(".") {
		e.Q, e.S = name, r.name()
	}
	e.X = list(r, r.expr)
	r.bound(len(e.X), maxArgs)
	return e
}

// truth tells the expression of a truth, 0 or 1.
func truth(n int64) api.Expr {
	return api.Expr{Op: api.ExBool, N: n}
}
