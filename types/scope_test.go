package types

import (
	"math/rand"
	"strconv"
	"strings"
	"testing"

	"treadmill/api"
)

func mustDef(t *testing.T, s *Scope, name string, x api.Type) {
	t.Helper()
	if !s.Def(name, x) {
		t.Errorf("Def(%q) = false", name)
	}
}

// mustNotDef holds that nothing is defined, and nothing changed.
func mustNotDef(t *testing.T, s *Scope, name string, x api.Type) {
	t.Helper()
	deep, count := s.Deep(), s.Count()
	was, number, there := s.Find(name)
	if s.Def(name, x) {
		t.Errorf("Def(%q) = true", name)
	}
	wantSizes(t, s, deep, count)
	if is, n, ok := s.Find(name); is != was || n != number || ok != there {
		t.Errorf("Find(%q) = %v, %d, %v, was %v, %d, %v", name, is, n, ok, was, number, there)
	}
}

func mustClose(t *testing.T, s *Scope) {
	t.Helper()
	if !s.Close() {
		t.Error("Close = false")
	}
}

func wantFind(t *testing.T, s *Scope, name string, x api.Type, number int) {
	t.Helper()
	if is, n, ok := s.Find(name); is != x || n != number || !ok {
		t.Errorf("Find(%q) = %v, %d, %v, want %v, %d", name, is, n, ok, x, number)
	}
}

func wantNoFind(t *testing.T, s *Scope, names ...string) {
	t.Helper()
	for _, name := range names {
		if is, n, ok := s.Find(name); is != api.NoType || n != 0 || ok {
			t.Errorf("Find(%q) = %v, %d, %v, want none", name, is, n, ok)
		}
	}
}

func wantSizes(t *testing.T, s *Scope, deep, count int) {
	t.Helper()
	if s.Deep() != deep || s.Count() != count {
		t.Errorf("Deep = %d, Count = %d, want %d, %d", s.Deep(), s.Count(), deep, count)
	}
}

func TestP1203Nil(t *testing.T) {
	var s *Scope
	for range 3 {
		s.Open()
		wantSizes(t, s, 0, 0)
		mustNotDef(t, s, "a", api.Int)
		mustNotDef(t, s, "", odd)
		wantNoFind(t, s, "a", "", "b")
		if s.Close() {
			t.Error("Close = true")
		}
	}
}

func TestP1203Zero(t *testing.T) {
	for _, s := range []*Scope{{}, new(Scope)} {
		wantSizes(t, s, 0, 0)
		wantNoFind(t, s, "a", "")
		mustNotDef(t, s, "a", api.Int)
		if s.Close() {
			t.Error("Close = true")
		}
		wantSizes(t, s, 0, 0)
		s.Open()
		wantSizes(t, s, 1, 0)
		wantNoFind(t, s, "a", "")
		// The number 0 is the first one's, for all that was refused ahead.
		mustDef(t, s, "a", api.Bool)
		wantFind(t, s, "a", api.Bool, 0)
	}
}

func TestP1203OpenAndClose(t *testing.T) {
	var s Scope
	for i := range 5 {
		s.Open()
		wantSizes(t, &s, i+1, i)
		mustDef(t, &s, strconv.Itoa(i), api.Int)
	}
	for i := 4; i >= 0; i-- {
		wantFind(t, &s, strconv.Itoa(i), api.Int, i)
		mustClose(t, &s)
		wantSizes(t, &s, i, 5)
		for gone := i; gone < 5; gone++ {
			wantNoFind(t, &s, strconv.Itoa(gone))
		}
		for left := range i {
			wantFind(t, &s, strconv.Itoa(left), api.Int, left)
		}
	}
	if s.Close() {
		t.Error("Close of none = true")
	}
	wantSizes(t, &s, 0, 5)
	mustNotDef(t, &s, "0", api.Int)
}

func TestP1203Def(t *testing.T) {
	var s Scope
	s.Open()
	mustDef(t, &s, "a", api.Int)
	mustDef(t, &s, "b", api.Bool)
	mustDef(t, &s, "A", api.NoType)
	wantFind(t, &s, "a", api.Int, 0)
	wantFind(t, &s, "b", api.Bool, 1)
	wantFind(t, &s, "A", api.NoType, 2)
	// The block has it, be it of that type or of another one.
	mustNotDef(t, &s, "a", api.Int)
	mustNotDef(t, &s, "a", api.Bool)
	mustNotDef(t, &s, "A", api.NoType)
	// Any text may stand for any type.
	for i, name := range []string{"", " ", "if", "é", "a.b", "\x00", "\xff", strings.Repeat("a", 1<<16)} {
		mustDef(t, &s, name, odd-api.Type(i))
		wantFind(t, &s, name, odd-api.Type(i), 3+i)
		mustNotDef(t, &s, name, api.Int)
	}
	wantSizes(t, &s, 1, 11)
	wantNoFind(t, &s, "c", "B", "ab", "a ", "aa")
}

func TestP1203DefInInner(t *testing.T) {
	var s Scope
	s.Open()
	mustDef(t, &s, "a", api.Int)
	mustDef(t, &s, "b", api.Int)
	s.Open()
	// What an outer block has is found, and an inner one may have it too, once.
	wantFind(t, &s, "a", api.Int, 0)
	mustDef(t, &s, "a", api.Bool)
	wantFind(t, &s, "a", api.Bool, 2)
	wantFind(t, &s, "b", api.Int, 1)
	mustNotDef(t, &s, "a", api.Int)
	s.Open()
	wantFind(t, &s, "a", api.Bool, 2)
	mustDef(t, &s, "c", api.Int)
	mustDef(t, &s, "a", api.Int)
	wantFind(t, &s, "a", api.Int, 4)
	mustNotDef(t, &s, "a", api.Bool)
	wantSizes(t, &s, 3, 5)
}

func TestP1203NumbersDontComeAgain(t *testing.T) {
	var s Scope
	for i := range 10 {
		s.Open()
		mustDef(t, &s, "a", api.Int)
		wantFind(t, &s, "a", api.Int, 2*i)
		s.Open()
		mustDef(t, &s, "a", api.Bool)
		wantFind(t, &s, "a", api.Bool, 2*i+1)
		mustClose(t, &s)
		mustNotDef(t, &s, "a", api.Bool)
		mustClose(t, &s)
		wantNoFind(t, &s, "a")
		wantSizes(t, &s, 0, 2*i+2)
	}
}

// plainScope has its names in lists.
type plainScope struct {
	blocks [][]plainVariable
	count  int
}

type plainVariable struct {
	name   string
	t      api.Type
	number int
}

func (s *plainScope) in(block int, name string) (plainVariable, bool) {
	for _, v := range s.blocks[block] {
		if v.name == name {
			return v, true
		}
	}
	return plainVariable{}, false
}

func (s *plainScope) find(name string) (plainVariable, bool) {
	for i := len(s.blocks) - 1; i >= 0; i-- {
		if v, ok := s.in(i, name); ok {
			return v, true
		}
	}
	return plainVariable{}, false
}

func (s *plainScope) def(name string, t api.Type) bool {
	last := len(s.blocks) - 1
	if last < 0 {
		return false
	}
	if _, has := s.in(last, name); has {
		return false
	}
	s.blocks[last] = append(s.blocks[last], plainVariable{name, t, s.count})
	s.count++
	return true
}

func (s *plainScope) close() bool {
	last := len(s.blocks) - 1
	if last < 0 {
		return false
	}
	s.blocks = s.blocks[:last]
	return true
}

func TestP1203Many(t *testing.T) {
	names := strings.Split(",a,b,c,A,ab,abc,_,x1", ",")
	for seed := range int64(60) {
		r := rand.New(rand.NewSource(seed))
		var s Scope
		var p plainScope
		for range 400 {
			name, x := names[r.Intn(len(names))], api.Type(r.Intn(4))
			switch n := r.Intn(10); {
			case n < 3:
				s.Open()
				p.blocks = append(p.blocks, nil)
			case n < 5:
				if got, want := s.Close(), p.close(); got != want {
					t.Fatalf("Close = %v, want %v", got, want)
				}
			default:
				if got, want := s.Def(name, x), p.def(name, x); got != want {
					t.Fatalf("Def(%q) = %v, want %v", name, got, want)
				}
			}
			wantSizes(t, &s, len(p.blocks), p.count)
			for _, name := range names {
				if v, ok := p.find(name); ok {
					wantFind(t, &s, name, v.t, v.number)
				} else {
					wantNoFind(t, &s, name)
				}
			}
		}
	}
}

// What is far out is found as fast as what is near, so that a tree as deep as may be is gone through.
func TestP1203Deep(t *testing.T) {
	const deep = 200000
	var s Scope
	s.Open()
	mustDef(t, &s, "out", api.Bool)
	for i := 1; i < deep; i++ {
		s.Open()
		mustDef(t, &s, "a", api.Int)
		wantFind(t, &s, "a", api.Int, i)
		wantFind(t, &s, "out", api.Bool, 0)
		wantNoFind(t, &s, "b")
	}
	wantSizes(t, &s, deep, deep)
	for i := deep - 1; i > 0; i-- {
		wantFind(t, &s, "a", api.Int, i)
		mustClose(t, &s)
	}
	wantNoFind(t, &s, "a")
	wantFind(t, &s, "out", api.Bool, 0)
	for i := range deep {
		mustDef(t, &s, strconv.Itoa(i), api.Int)
	}
	wantFind(t, &s, "77", api.Int, deep+77)
	mustClose(t, &s)
	wantNoFind(t, &s, "out", "77")
	wantSizes(t, &s, 0, 2*deep)
}

func TestP1204Example(t *testing.T) {
	var s Scope
	s.Open()
	mustDef(t, &s, "a", api.Int)
	s.Open()
	mustDef(t, &s, "a", api.Bool)
	mustClose(t, &s)
	wantFind(t, &s, "a", api.Int, 0)
}

func TestP1204FoundAgain(t *testing.T) {
	var s Scope
	for i := range 20 {
		s.Open()
		mustDef(t, &s, "a", api.Type(i))
		// Each third block hides b, too; the others leave it as it is.
		if i%3 == 0 {
			mustDef(t, &s, "b", odd-api.Type(i))
		}
	}
	number := func(i int) int { return i + (i+2)/3 }
	for i := 19; i >= 0; i-- {
		wantFind(t, &s, "a", api.Type(i), number(i))
		wantFind(t, &s, "b", odd-api.Type(i/3*3), number(i/3*3)+1)
		mustNotDef(t, &s, "a", api.Int)
		mustClose(t, &s)
	}
	wantNoFind(t, &s, "a", "b")
}

func TestP1204WhateverItIs(t *testing.T) {
	// Neither the type nor the number 0 means that nothing is hidden.
	for _, x := range []api.Type{api.NoType, api.Int, api.Bool, odd} {
		for _, name := range []string{"", "a"} {
			var s Scope
			s.Open()
			mustDef(t, &s, name, x)
			for range 3 {
				s.Open()
				mustDef(t, &s, name, x+1)
				mustClose(t, &s)
				wantFind(t, &s, name, x, 0)
				mustNotDef(t, &s, name, x)
			}
			s.Open()
			mustClose(t, &s)
			wantFind(t, &s, name, x, 0)
		}
	}
}

func TestP1201ScopeKeepsItsNames(t *testing.T) {
	var s Scope
	b := []byte("ab")
	s.Open()
	mustDef(t, &s, behind(b), api.Int)
	s.Open()
	mustDef(t, &s, behind(b), api.Bool)
	copy(b, "xy")
	wantFind(t, &s, "ab", api.Bool, 1)
	wantNoFind(t, &s, "xy")
	mustClose(t, &s)
	wantFind(t, &s, "ab", api.Int, 0)
	mustClose(t, &s)
	wantNoFind(t, &s, "ab", "xy")
}

func TestP1201ScopesAreApart(t *testing.T) {
	var one, two Scope
	one.Open()
	two.Open()
	mustDef(t, &one, "a", api.Int)
	wantNoFind(t, &two, "a")
	mustDef(t, &two, "b", api.Bool)
	mustDef(t, &two, "a", api.Bool)
	mustClose(t, &two)
	wantFind(t, &one, "a", api.Int, 0)
	wantNoFind(t, &one, "b")
	wantSizes(t, &one, 1, 1)
	wantSizes(t, &two, 0, 2)
}
