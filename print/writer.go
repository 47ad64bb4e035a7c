package print

import (
	"strings"

	"treadmill/api"
	"treadmill/lex"
	"treadmill/tree"
)

var signs = [...]string{
	api.ExNeg: "-", api.ExNot: "!",
	api.ExMul: "*", api.ExDiv: "/", api.ExRem: "%", api.ExAdd: "+", api.ExSub: "-",
	api.ExEq: "==", api.ExNe: "!=", api.ExLt: "<", api.ExLe: "<=", api.ExGt: ">", api.ExGe: ">=",
	api.ExAnd: "&&", api.ExOr: "||",
}

// writer writes what is right, one thing behind the other.
type writer struct {
	strings.Builder
	// open is how many blocks are.
	open int
}

func (w *writer) lay(l ...string) {
	for _, s := range l {
		w.WriteString(s)
	}
}

func (w *writer) file(f api.File) {
	// A name may be a key, that brings no sign ; at a line's end.
	w.lay("package ", f.Name, ";\n")
	for _, s := range f.Imports {
		w.lay("import ", lex.Show(api.Word{Kind: api.WordText, S: s}), "\n")
	}
	for _, g := range f.Funcs {
		w.function(g)
		w.lay("\n")
	}
}

func (w *writer) function(f api.Func) {
	w.lay("func ", f.Name)
	list(w, f.Params, w.param)
	if f.Result != api.NoType {
		w.lay(" ")
		w.typed(f.Result)
	}
	w.block(f.Body)
}

func (w *writer) param(p api.Param) {
	w.lay(p.Name, " ")
	w.typed(p.T)
}

func (w *writer) typed(t api.Type) {
	switch t {
	case api.Int:
		w.lay("int")
	case api.Bool:
		w.lay("bool")
	}
}

// block writes a block, with a blank ahead.
func (w *writer) block(l []api.Stmt) {
	w.lay(" {\n")
	w.open++
	for _, s := range l {
		w.tabs()
		w.stmt(s)
		w.lay("\n")
	}
	w.open--
	w.tabs()
	w.lay("}")
}

func (w *writer) tabs() {
	w.WriteString(strings.Repeat("\t", w.open))
}

func (w *writer) stmt(s api.Stmt) {
	switch s.Op {
	case api.StDef:
		w.lay(s.S, " := ")
		w.expr(s.E)
	case api.StSet:
		w.lay(s.S, " = ")
		w.expr(s.E)
	case api.StIf:
		w.choice(s)
	case api.StFor:
		w.lay("for ")
		w.expr(s.E)
		w.block(s.Body)
	case api.StReturn:
		w.back(s)
	case api.StPrint:
		w.lay("print(")
		w.expr(s.E)
		w.lay(")")
	case api.StCall:
		w.expr(s.E)
	case api.StBreak:
		w.lay("break")
	case api.StNext:
		w.lay("continue")
	}
}

func (w *writer) choice(s api.Stmt) {
	w.lay("if ")
	w.expr(s.E)
	w.block(s.Body)
	if len(s.Else) > 0 {
		w.lay(" else")
		w.block(s.Else)
	}
}

func (w *writer) back(s api.Stmt) {
	w.lay("return")
	if s.E.Op != 0 {
		w.lay(" ")
		w.expr(s.E)
	}
}

func (w *writer) expr(e api.Expr) {
	switch e.Op {
	case api.ExNum:
		w.lay(lex.Show(api.Word{Kind: api.WordNum, N: e.N}))
	case api.ExBool:
		w.truth(e.N)
	case api.ExName:
		w.lay(e.S)
	case api.ExCall:
		w.call(e)
	case api.ExNeg, api.ExNot:
		w.lay(signs[e.Op])
		w.part(e.X[0])
	default:
		w.part(e.X[0])
		w.lay(" ", signs[e.Op], " ")
		w.part(e.X[1])
	}
}

func (w *writer) truth(n int64) {
	if n == 0 {
		w.lay("false")
	} else {
		w.lay("true")
	}
}

func (w *writer) call(e api.Expr) {
	if e.Q != "" {
		w.lay(e.Q, ".")
	}
	w.lay(e.S)
	list(w, e.X, w.expr)
}

// part writes what stands beside a sign. An argument of a call is none: commas part it from all else.
func (w *writer) part(e api.Expr) {
	if tree.Parts(e.Op) != 2 {
		w.expr(e)
		return
	}
	w.lay("(")
	w.expr(e)
	w.lay(")")
}

// list writes a list in brackets.
func list[T any](w *writer, l []T, part func(T)) {
	w.lay("(")
	for i, x := range l {
		if i > 0 {
			w.lay(", ")
		}
		part(x)
	}
	w.lay(")")
}
