package tree

import (
	"iter"

	"treadmill/api"
)

// maxNodes is how many nodes of a tree are gone through: one whose lists are parts of themselves has no end of them.
const maxNodes = 100000

// nodes yields all nodes of functions, each ahead of its parts; of a statement its expression, if it has one. A function and a statement are yielded as the zero expression.
func nodes(l []api.Func, has func(api.Stmt) bool) iter.Seq[api.Expr] {
	return func(yield func(api.Expr) bool) {
		for _, f := range l {
			if !yield(api.Expr{}) {
				return
			}
			for s := range statements(f.Body) {
				if !yield(api.Expr{}) {
					return
				}
				if !has(s) {
					continue
				}
				for e := range parts(s.E) {
					if !yield(e) {
						return
					}
				}
			}
		}
	}
}

// counts tells whether a statement's expression is one that the file has.
func counts(s api.Stmt) bool {
	switch s.Op {
	case api.StReturn:
		return given(s)
	case api.StBreak, api.StNext:
		return false
	}
	return true
}

// given tells whether something stands where a statement's expression does, be it right there or not.
func given(s api.Stmt) bool {
	return !zero(s.E)
}

func zero(e api.Expr) bool {
	return e.Op == 0 && e.N == 0 && e.S == "" && e.Q == "" && len(e.X) == 0
}

// statements yields statements, and all that stand in their blocks.
func statements(l []api.Stmt) iter.Seq[api.Stmt] {
	return func(yield func(api.Stmt) bool) {
		yieldStatements(l, yield)
	}
}

// parts yields an expression, and all that it is made of.
func parts(e api.Expr) iter.Seq[api.Expr] {
	return func(yield func(api.Expr) bool) {
		yieldParts(e, yield)
	}
}

// yieldStatements hands one yield down to all depths: a sequence of sequences would hand each statement up through all that it stands in.
func yieldStatements(l []api.Stmt, yield func(api.Stmt) bool) bool {
	for _, s := range l {
		if !yield(s) || !yieldStatements(s.Body, yield) || !yieldStatements(s.Else, yield) {
			return false
		}
	}
	return true
}

func yieldParts(e api.Expr, yield func(api.Expr) bool) bool {
	if !yield(e) {
		return false
	}
	for _, x := range e.X {
		if !yieldParts(x, yield) {
			return false
		}
	}
	return true
}

// first yields the first n of a sequence.
func first(n int, l iter.Seq[api.Expr]) iter.Seq[api.Expr] {
	return func(yield func(api.Expr) bool) {
		left := n
		for e := range l {
			if left <= 0 || !yield(e) {
				return
			}
			left--
		}
	}
}

// fits tells whether all of a sequence can be gone through.
func fits(l iter.Seq[api.Expr]) bool {
	n := 0
	for range first(maxNodes+1, l) {
		n++
	}
	return n <= maxNodes
}
