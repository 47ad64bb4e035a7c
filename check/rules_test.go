package check

import (
	"math"
	"reflect"
	"slices"
	"strings"
	"sync"
	"testing"

	"treadmill/api"
	"treadmill/types"
)

// tower tells n statements, each within the one ahead.
func tower(op, n int, last api.Stmt) api.Stmt {
	for range n {
		last = api.Stmt{Op: op, E: truth(1), Body: []api.Stmt{last}}
	}
	return last
}

// Trees are told of as far as they have at most 100000 nodes: an expression's are its own, those of no file around it.
func TestP1401ManyNodes(t *testing.T) {
	s := scoped()
	for _, n := range []int{1, 300, 99998, 99999, 100000} {
		if got, ok := Type(chain(api.ExNeg, n, name("a")), s, nil, nil); got != api.Int || !ok {
			t.Errorf("%d nodes: %d %v", n, got, ok)
		}
		if got, ok := Type(chain(api.ExNeg, n, name("d")), s, nil, nil); got != api.NoType || ok {
			t.Errorf("%d nodes, no variable: %d %v", n, got, ok)
		}
	}
	for _, n := range []int{100001, 300000} {
		if got, ok := Type(chain(api.ExNeg, n, name("a")), s, nil, nil); got != api.NoType || ok {
			t.Errorf("%d nodes: %d %v", n, got, ok)
		}
	}
	if no := File(inBody(printed(chain(api.ExNot, 99998, truth(1)))), nil); no != api.OK {
		t.Error(no)
	}
	if no := File(inBody(printed(chain(api.ExNot, 99998, number(1)))), nil); no != api.ErrType {
		t.Error(no)
	}
	if no := File(inBody(printed(chain(api.ExNot, 99999, truth(1)))), nil); no != api.ErrArg {
		t.Error(no)
	}
	for _, op := range []int{api.StIf, api.StFor} {
		if no := File(inBody(tower(op, 49999, api.Stmt{Op: api.StReturn})), nil); no != api.OK {
			t.Error(op, no)
		}
		if no := File(inBody(tower(op, 49998, printed(name("a")))), nil); no != api.ErrType {
			t.Error(op, no)
		}
		if no := File(inBody(tower(op, 50000, api.Stmt{Op: api.StReturn})), nil); no != api.ErrArg {
			t.Error(op, no)
		}
	}
	wide := inBody(slices.Repeat([]api.Stmt{{Op: api.StReturn}}, 99999)...)
	if no := File(wide, nil); no != api.OK {
		t.Error(no)
	}
	wide.Name, wide.Funcs[0].Name = "main", "main"
	if no := Program([]api.File{wide}); no != api.OK {
		t.Error(no)
	}
}

func TestP1401EndsAtAnyTree(t *testing.T) {
	crowd, blocks := name("a"), []api.Stmt{back(number(1))}
	for range 60 {
		crowd = joined(api.ExAdd, crowd, crowd)
		blocks = []api.Stmt{{Op: api.StIf, E: truth(1), Body: blocks, Else: blocks}}
	}
	for i, e := range []api.Expr{crowd, endless(api.ExNeg, 1), endless(api.ExAdd, 2), endless(api.ExEq, 2), endless(api.ExCall, 3), endless(api.ExNum, 1), endless(0, 2), joined(api.ExNot, endless(api.ExCall, 255))} {
		if got, ok := Type(e, scoped(), ownSigs(), imports()); got != api.NoType || ok {
			t.Errorf("%d: %d %v", i, got, ok)
		}
		for _, f := range []api.File{inBody(printed(e)), inBody(back(e)), inBody(again(truth(1), set("a", e)))} {
			f.Name = "main"
			if File(f, imports()) != api.ErrArg || Program([]api.File{f}) != api.ErrArg {
				t.Errorf("%d: no ErrArg", i)
			}
		}
	}
	for op := -1; op <= api.StNext+1; op++ {
		for _, e := range []api.Expr{{}, truth(1), endless(api.ExBool, 2)} {
			s := endlessStmt(op, e)
			if f := inBody(s); File(f, nil) != api.ErrArg || Program([]api.File{f}) != api.ErrArg {
				t.Errorf("op %d: no ErrArg", op)
			}
			Ends([]api.Stmt{s})
			Ends([]api.Stmt{again(truth(1), s)})
			Ends([]api.Stmt{{Op: api.StIf, Body: []api.Stmt{s}, Else: []api.Stmt{s}}})
		}
	}
	Ends(blocks)
	Ends([]api.Stmt{again(truth(1), blocks...)})
	if Ends([]api.Stmt{endlessStmt(api.StIf, truth(1))}) || !Ends([]api.Stmt{endlessStmt(api.StIf, truth(1)), {Op: api.StReturn}}) {
		t.Error("of what has no end")
	}
}

func TestP1401LongLists(t *testing.T) {
	many := make([]api.File, 1<<16)
	if no := Program(many); no != api.ErrArg {
		t.Error(no)
	}
	long := strings.Repeat("a", 1<<20)
	l := make([]api.Import, 1<<16)
	for i := range l {
		l[i].Path = long[:i]
	}
	l[17] = api.Import{Path: "q", Sigs: slices.Repeat([]api.Sig{sig(long, odd, make([]api.Type, 1<<10)...)}, 1<<10)}
	l[17].Sigs = append(l[17].Sigs, sig("F", api.Int))
	if no := File(mustParse(t, "package p\nimport \"q\"\nimport \"aaa\"\nfunc f() { print(q.F()) }"), l); no != api.OK {
		t.Error(no)
	}
	if got, ok := Type(asked("q", "F"), scoped(), l[17].Sigs, l); got != api.Int || !ok {
		t.Error(got, ok)
	}
	if got, ok := Type(asked("", long), scoped(), l[17].Sigs, l); got != api.NoType || ok {
		t.Error(got, ok)
	}
}

// A Scope that is handed over must be there; the zero one has no names.
func TestP1401Scopes(t *testing.T) {
	for _, e := range []api.Expr{number(1), truth(1), name("a"), joined(api.ExNeg, number(1)), asked("", "is"), asked("q", "G"), {}} {
		if got, ok := Type(e, nil, ownSigs(), imports()); got != api.NoType || ok {
			t.Errorf("without a Scope: %d %v of %v", got, ok, e)
		}
	}
	for _, s := range []*types.Scope{{}, new(types.Scope)} {
		if got, ok := Type(number(1), s, nil, nil); got != api.Int || !ok {
			t.Error(got, ok)
		}
		if got, ok := Type(asked("q", "G"), s, nil, imports()); got != api.Bool || !ok {
			t.Error(got, ok)
		}
		if got, ok := Type(name("a"), s, nil, nil); got != api.NoType || ok {
			t.Error(got, ok)
		}
		if s.Deep() != 0 || s.Count() != 0 {
			t.Error("the Scope has changed")
		}
		s.Open()
		s.Def("a", api.Bool)
		if got, ok := Type(name("a"), s, nil, nil); got != api.Bool || !ok {
			t.Error(got, ok)
		}
		s.Close()
		if got, ok := Type(name("a"), s, nil, nil); got != api.NoType || ok {
			t.Error(got, ok)
		}
	}
}

func TestP1401NothingChanged(t *testing.T) {
	for seed := range int64(300) {
		one, two := newMaker(seed, 10), newMaker(seed, 10)
		f, all := one.file()
		was, had := two.file()
		File(f, all)
		l, _ := one.program()
		wanted, _ := two.program()
		Program(l)
		one.blocks, two.blocks = []map[string]api.Type{{}}, []map[string]api.Type{{}}
		e, same := one.expr(api.Int, 4), two.expr(api.Int, 4)
		s := scoped()
		Type(e, s, one.own, all)
		for _, g := range f.Funcs {
			Ends(g.Body)
		}
		if !reflect.DeepEqual(f, was) || !reflect.DeepEqual(all, had) || !reflect.DeepEqual(l, wanted) || !reflect.DeepEqual(e, same) || !reflect.DeepEqual(one.own, two.own) {
			t.Fatal("changed:", f, all, l, e)
		}
		if !reflect.DeepEqual(s, scoped()) {
			t.Fatal("the Scope has changed:", s)
		}
	}
	// What lies behind a list stays, too.
	room := []api.Expr{number(1), number(2), name("x")}
	own := []api.Sig{sig("f", api.Int, api.Int), sig("x", odd)}
	if got, ok := Type(asked("", "f", room[:1]...), scoped(), own[:1], nil); got != api.Int || !ok {
		t.Error(got, ok)
	}
	if !reflect.DeepEqual(room, []api.Expr{number(1), number(2), name("x")}) || !reflect.DeepEqual(own, []api.Sig{sig("f", api.Int, api.Int), sig("x", odd)}) {
		t.Error("changed:", room, own)
	}
}

// Nil lists and empty ones mean the same.
func TestP1401NilAndEmpty(t *testing.T) {
	f := api.File{Name: "main", Imports: []string{}, Funcs: []api.Func{{Name: "main", Params: []api.Param{}, Body: []api.Stmt{{Op: api.StReturn, E: api.Expr{X: []api.Expr{}}, Body: []api.Stmt{}, Else: []api.Stmt{}}, {Op: api.StCall, E: api.Expr{Op: api.ExCall, S: "main", X: []api.Expr{}}}}}}}
	if no := File(f, []api.Import{}); no != api.OK {
		t.Error(no)
	}
	if no := Program([]api.File{f}); no != api.OK {
		t.Error(no)
	}
	if Program(nil) != api.ErrType || Program([]api.File{}) != api.ErrType {
		t.Error("of no files")
	}
	if got, ok := Type(api.Expr{Op: api.ExCall, S: "f", X: []api.Expr{}}, &types.Scope{}, []api.Sig{{Name: "f", Params: []api.Type{}, Result: api.Int}}, []api.Import{}); got != api.Int || !ok {
		t.Error(got, ok)
	}
	if got, ok := Type(api.Expr{Op: api.ExCall, S: "f"}, &types.Scope{}, []api.Sig{}, nil); got != api.NoType || ok {
		t.Error(got, ok)
	}
	if Ends(nil) || Ends([]api.Stmt{}) || Ends([]api.Stmt{{Op: math.MinInt}}) {
		t.Error("of nothing")
	}
}

func TestP1401SameFromAll(t *testing.T) {
	f, all := newMaker(1, 0).file()
	l, want := newMaker(2, 0).program()
	no, s := File(f, all), scoped()
	e := mustParseExpr(t, "both(one(a), !c)")
	var wait sync.WaitGroup
	for range 8 {
		wait.Go(func() {
			for range 100 {
				got, ok := Type(e, s, ownSigs(), all)
				if File(f, all) != no || Program(l) != want || got != api.Bool || !ok || !Ends([]api.Stmt{again(truth(1))}) {
					t.Error("not as alone")
				}
			}
		})
	}
	wait.Wait()
}
