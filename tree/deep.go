package tree

import (
	"slices"
	"strings"

	"treadmill/api"
)

func sameFunc(a, b api.Func) bool {
	return a.Name == b.Name && slices.Equal(a.Params, b.Params) && a.Result == b.Result && slices.EqualFunc(a.Body, b.Body, sameStmt)
}

func sameStmt(a, b api.Stmt) bool {
	return a.Op == b.Op && a.S == b.S && sameExpr(a.E, b.E) && slices.EqualFunc(a.Body, b.Body, sameStmt) && slices.EqualFunc(a.Else, b.Else, sameStmt)
}

func sameExpr(a, b api.Expr) bool {
	return a.Op == b.Op && a.N == b.N && a.S == b.S && a.Q == b.Q && slices.EqualFunc(a.X, b.X, sameExpr)
}

// newFunc tells a function that shares nothing with the one that it is made from.
func newFunc(f api.Func) api.Func {
	return api.Func{Name: strings.Clone(f.Name), Params: newList(f.Params, newParam), Result: f.Result, Body: newList(f.Body, newStmt)}
}

func newParam(p api.Param) api.Param {
	return api.Param{Name: strings.Clone(p.Name), T: p.T}
}

func newStmt(s api.Stmt) api.Stmt {
	return api.Stmt{Op: s.Op, S: strings.Clone(s.S), E: newExpr(s.E), Body: newList(s.Body, newStmt), Else: newList(s.Else, newStmt)}
}

func newExpr(e api.Expr) api.Expr {
	return api.Expr{Op: e.Op, N: e.N, S: strings.Clone(e.S), Q: strings.Clone(e.Q), X: newList(e.X, newExpr)}
}

func newList[T any](l []T, anew func(T) T) []T {
	var made []T
	for _, x := range l {
		made = append(made, anew(x))
	}
	return made
}
