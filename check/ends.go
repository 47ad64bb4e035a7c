package check

import "treadmill/api"

// maxStatements is how many statements are gone through, as many as a tree may have: lists that are parts of themselves have no end of them.
const maxStatements = 100000

// walk goes through statements.
type walk struct {
	// left is how many more it may come to.
	left int
}

// step tells whether there is one more that it may come to.
func (w *walk) step() bool {
	w.left--
	return w.left >= 0
}

func (w *walk) ends(l []api.Stmt) bool {
	if len(l) == 0 || !w.step() {
		return false
	}
	s := l[len(l)-1]
	switch s.Op {
	case api.StReturn:
		return true
	case api.StIf:
		return w.ends(s.Body) && w.ends(s.Else)
	case api.StFor:
		return s.E.Op == api.ExBool && s.E.N == 1 && !w.breaks(s.Body)
	}
	return false
}

// breaks tells whether one comes out of the StFor whose Body, or a part of it, this is; so it is where that can't be told.
func (w *walk) breaks(l []api.Stmt) bool {
	for _, s := range l {
		if !w.step() || s.Op == api.StBreak {
			return true
		}
		// A StBreak in another StFor leaves that one.
		if s.Op != api.StFor && (w.breaks(s.Body) || w.breaks(s.Else)) {
			return true
		}
	}
	return false
}
