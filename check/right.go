package check

import (
	"slices"

	"treadmill/api"
	"treadmill/tree"
)

func wrong(f api.File) bool {
	return !tree.Right(f)
}

// right tells whether an expression is.
func right(e api.Expr) bool {
	// With more nodes than a tree may have, it is not told to be the same as itself: this bounds how far the rest goes.
	return tree.SameExpr(e, e) && rightNodes(e)
}

// rightNodes asks for each node alone: a file around all of them has two nodes more, and might so have too many.
func rightNodes(e api.Expr) bool {
	return rightAlone(e) && !slices.ContainsFunc(e.X, func(x api.Expr) bool { return !rightNodes(x) })
}

// rightAlone tells whether an expression is right, if its parts are.
func rightAlone(e api.Expr) bool {
	e.X = slices.Repeat([]api.Expr{{Op: api.ExNum}}, len(e.X))
	f := api.Func{Name: "f", Body: []api.Stmt{{Op: api.StPrint, E: e}}}
	return tree.Right(api.File{Name: "p", Funcs: []api.Func{f}})
}
