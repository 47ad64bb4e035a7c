package tree

import (
	"slices"

	"treadmill/api"
	"treadmill/lex"
)

// maxArgs is how many parts a call may have.
const maxArgs = 255

// rightHead tells whether all of a file is right but what is in its functions.
func rightHead(f api.File) bool {
	return rightWord(f.Name) && len(f.Imports) <= api.MaxImports && len(f.Funcs) <= api.MaxFuncs && !slices.ContainsFunc(f.Imports, wrongWord)
}

// rightWord tells whether a package may be called so.
func rightWord(s string) bool {
	return lex.Name(s) || lex.Key(s)
}

func wrongWord(s string) bool {
	return !rightWord(s)
}

func wrongFunc(f api.Func) bool {
	if !lex.Name(f.Name) || len(f.Params) > api.MaxParams || slices.ContainsFunc(f.Params, wrongParam) {
		return true
	}
	if f.Result != api.NoType && !valued(f.Result) {
		return true
	}
	for s := range statements(f.Body) {
		if !rightStmt(s) {
			return true
		}
	}
	return false
}

func wrongParam(p api.Param) bool {
	return !lex.Name(p.Name) || !valued(p.T)
}

// valued tells whether there are values of a type.
func valued(t api.Type) bool {
	return t == api.Int || t == api.Bool
}

// rightStmt tells whether a statement is right but what is in its blocks.
func rightStmt(s api.Stmt) bool {
	return rightTarget(s) && rightBlocks(s) && rightAsked(s)
}

func rightTarget(s api.Stmt) bool {
	if s.Op == api.StDef || s.Op == api.StSet {
		return lex.Name(s.S)
	}
	return s.S == ""
}

func rightBlocks(s api.Stmt) bool {
	switch s.Op {
	case api.StIf:
		return true
	case api.StFor:
		return len(s.Else) == 0
	}
	return len(s.Body) == 0 && len(s.Else) == 0
}

// rightAsked tells whether a statement's expression is right there.
func rightAsked(s api.Stmt) bool {
	switch s.Op {
	case api.StDef, api.StSet, api.StIf, api.StFor, api.StPrint:
		return rightExpr(s.E)
	case api.StReturn:
		return zero(s.E) || rightExpr(s.E)
	case api.StCall:
		return s.E.Op == api.ExCall && rightExpr(s.E)
	case api.StBreak, api.StNext:
		return zero(s.E)
	}
	return false
}

func rightExpr(e api.Expr) bool {
	for x := range parts(e) {
		if !rightNumber(x) || !rightNames(x) || !rightParts(x) {
			return false
		}
	}
	return true
}

func rightNumber(e api.Expr) bool {
	switch e.Op {
	case api.ExNum:
		return e.N >= 0
	case api.ExBool:
		return e.N == 0 || e.N == 1
	}
	return e.N == 0
}

func rightNames(e api.Expr) bool {
	switch e.Op {
	case api.ExName:
		return lex.Name(e.S) && e.Q == ""
	case api.ExCall:
		return lex.Name(e.S) && (e.Q == "" || lex.Name(e.Q))
	}
	return e.S == "" && e.Q == ""
}

// rightParts tells whether there are as many parts as an op has: of no op, as none has -1, there never are.
func rightParts(e api.Expr) bool {
	if e.Op == api.ExCall {
		return len(e.X) <= maxArgs
	}
	return len(e.X) == Parts(e.Op)
}
