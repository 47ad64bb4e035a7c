package types

import (
	"slices"
	"strings"

	"treadmill/api"
)

// Scope: what names stand for, in blocks that stand in one another; the zero one has no block open.
type Scope struct {
	// found has, of each name, the variable of the innermost block that has it: to look through all blocks that are open would cost too much.
	found map[string]variable
	// blocks are the open ones, the innermost one last.
	blocks [][]named
	// count is how many variables there were.
	count int
}

// variable: what a name stands for.
type variable struct {
	t      api.Type
	number int
	// deep is how many blocks were open where it was made: of none 0.
	deep int
}

// named: a name of a block, and the variable that it hides.
type named struct {
	name   string
	hidden variable
}

// Open opens a block in the others.
func (s *Scope) Open() {
	if s != nil {
		s.blocks = append(s.blocks, nil)
	}
}

// Close takes the innermost block away, with its names: what they hid is found again.
func (s *Scope) Close() bool {
	last := s.Deep() - 1
	if last < 0 {
		return false
	}
	for _, n := range s.blocks[last] {
		s.bringBack(n)
	}
	s.blocks = slices.Delete(s.blocks, last, last+1)
	return true
}

// Def makes a variable, and has a name stand for it in the innermost block.
func (s *Scope) Def(name string, t api.Type) bool {
	deep := s.Deep()
	if deep == 0 || s.found[name].deep == deep {
		return false
	}
	if s.found == nil {
		s.found = map[string]variable{}
	}
	// Who keeps a piece of a text keeps all of it.
	name = strings.Clone(name)
	s.blocks[deep-1] = append(s.blocks[deep-1], named{name, s.found[name]})
	s.found[name] = variable{t, s.count, deep}
	s.count++
	return true
}

// Find tells the type and the number of the variable that a name stands for.
func (s *Scope) Find(name string) (api.Type, int, bool) {
	if s == nil {
		return api.NoType, 0, false
	}
	v, ok := s.found[name]
	return v.t, v.number, ok
}

// Deep tells how many blocks are open.
func (s *Scope) Deep() int {
	if s == nil {
		return 0
	}
	return len(s.blocks)
}

// Count tells how many variables there were, those that went among them.
func (s *Scope) Count() int {
	if s == nil {
		return 0
	}
	return s.count
}

// bringBack has a name stand for what it hides.
func (s *Scope) bringBack(n named) {
	if n.hidden.deep == 0 {
		delete(s.found, n.name)
		return
	}
	s.found[n.name] = n.hidden
}
