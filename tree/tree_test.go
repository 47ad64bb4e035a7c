package tree

import (
	"math"
	"math/rand"
	"reflect"
	"slices"
	"strings"
	"sync"
	"testing"
	"unsafe"

	"treadmill/api"
	"treadmill/lex"
)

func number(n int64) api.Expr                   { return api.Expr{Op: api.ExNum, N: n} }
func name(s string) api.Expr                    { return api.Expr{Op: api.ExName, S: s} }
func made(op int, x ...api.Expr) api.Expr       { return api.Expr{Op: op, X: x} }
func call(q, s string, x ...api.Expr) api.Expr  { return api.Expr{Op: api.ExCall, Q: q, S: s, X: x} }
func printed(e api.Expr) api.Stmt               { return api.Stmt{Op: api.StPrint, E: e} }
func function(s string, l ...api.Stmt) api.Func { return api.Func{Name: s, Body: l} }
func file(l ...api.Func) api.File               { return api.File{Name: "p", Funcs: l} }

// within tells a file whose only function prints an expression.
func within(e api.Expr) api.File { return file(function("f", printed(e))) }

// inBody tells a file whose only function has some statements.
func inBody(l ...api.Stmt) api.File { return file(function("f", l...)) }

// chain tells an expression of n nodes, each within the one ahead.
func chain(n int) api.Expr {
	e := number(1)
	for range n - 1 {
		e = made(api.ExNeg, e)
	}
	return e
}

// tower tells a statement of 2 n nodes, each within the one ahead.
func tower(n int) api.Stmt {
	s := printed(number(1))
	for range n - 1 {
		s = api.Stmt{Op: api.StIf, E: number(1), Else: []api.Stmt{s}}
	}
	return s
}

// endless tells an expression that is part of itself.
func endless(op int) api.Expr {
	e := api.Expr{Op: op, S: "f", X: make([]api.Expr, 2)}
	e.X[0], e.X[1] = e, e
	return e
}

// endlessStmt tells a statement that stands in itself.
func endlessStmt(op int) api.Stmt {
	s := api.Stmt{Op: op, Body: make([]api.Stmt, 1), Else: make([]api.Stmt, 1)}
	s.Body[0], s.Else[0] = s, s
	return s
}

// crowd tells an expression whose parts are the same list at each depth: 2^n in all.
func crowd(n int) api.Expr {
	e := number(1)
	for range n {
		e = made(api.ExAdd, e, e)
	}
	return e
}

// maker makes trees, right ones if none of its parts is spoilt.
type maker struct{ *rand.Rand }

func (m maker) name() string {
	return []string{"a", "b", "F", "_", "x1", "abcdefghijklmnop"}[m.Intn(6)]
}

func (m maker) expr(deep int) api.Expr {
	op := 1 + m.Intn(api.ExOr)
	if deep <= 0 {
		op = 1 + m.Intn(api.ExName)
	}
	e := api.Expr{Op: op}
	n := 2
	switch op {
	case api.ExNum:
		e.N, n = m.Int63(), 0
	case api.ExBool:
		e.N, n = m.Int63n(2), 0
	case api.ExName:
		e.S, n = m.name(), 0
	case api.ExCall:
		e.S, n = m.name(), m.Intn(4)
		if m.Intn(2) == 0 {
			e.Q = m.name()
		}
	case api.ExNeg, api.ExNot:
		n = 1
	}
	for range n {
		e.X = append(e.X, m.expr(deep-1))
	}
	return e
}

func (m maker) stmt(deep int) api.Stmt {
	s := api.Stmt{Op: 1 + m.Intn(api.StNext)}
	switch s.Op {
	case api.StDef, api.StSet:
		s.S, s.E = m.name(), m.expr(3)
	case api.StIf:
		s.E, s.Body, s.Else = m.expr(2), m.stmts(deep-1), m.stmts(deep-1)
	case api.StFor:
		s.E, s.Body = m.expr(2), m.stmts(deep-1)
	case api.StReturn:
		if m.Intn(2) == 0 {
			s.E = m.expr(2)
		}
	case api.StPrint:
		s.E = m.expr(4)
	case api.StCall:
		s.E = call("", m.name(), m.expr(2))
	}
	return s
}

func (m maker) stmts(deep int) []api.Stmt {
	var l []api.Stmt
	for range m.Intn(max(1, 2*deep)) {
		l = append(l, m.stmt(deep))
	}
	return l
}

func (m maker) file() api.File {
	f := api.File{Name: m.name()}
	for range m.Intn(api.MaxImports + 1) {
		f.Imports = append(f.Imports, []string{"q", "if", "main"}[m.Intn(3)])
	}
	for range m.Intn(5) {
		g := api.Func{Name: m.name(), Result: api.Type(m.Intn(3)), Body: m.stmts(3)}
		for range m.Intn(api.MaxParams + 1) {
			g.Params = append(g.Params, api.Param{Name: m.name(), T: api.Type(1 + m.Intn(2))})
		}
		f.Funcs = append(f.Funcs, g)
	}
	return f
}

// trees are right ones, the same ones each time.
func trees(n int) []api.File {
	m := maker{rand.New(rand.NewSource(9))}
	var l []api.File
	for range n {
		l = append(l, m.file())
	}
	return l
}

// places tells where numbers and texts of a tree stand, and its lists.
func places(f *api.File) []any {
	l := []any{&f.Name, &f.Imports, &f.Funcs}
	for i := range f.Imports {
		l = append(l, &f.Imports[i])
	}
	for i := range f.Funcs {
		l = append(l, placesOfFunc(&f.Funcs[i])...)
	}
	return l
}

func placesOfFunc(f *api.Func) []any {
	l := []any{&f.Name, &f.Params, &f.Result, &f.Body}
	for i := range f.Params {
		l = append(l, &f.Params[i].Name, &f.Params[i].T)
	}
	for i := range f.Body {
		l = append(l, placesOfStmt(&f.Body[i])...)
	}
	return l
}

func placesOfStmt(s *api.Stmt) []any {
	l := append([]any{&s.Op, &s.S, &s.Body, &s.Else}, placesOfExpr(&s.E)...)
	for i := range s.Body {
		l = append(l, placesOfStmt(&s.Body[i])...)
	}
	for i := range s.Else {
		l = append(l, placesOfStmt(&s.Else[i])...)
	}
	return l
}

func placesOfExpr(e *api.Expr) []any {
	l := []any{&e.Op, &e.N, &e.S, &e.Q, &e.X}
	for i := range e.X {
		l = append(l, placesOfExpr(&e.X[i])...)
	}
	return l
}

// spoil sets what stands at a place to something else, and tells how to bring it back.
func spoil(place any, r *rand.Rand) func() {
	switch p := place.(type) {
	case *string:
		return swap(p, []string{"", *p + "y", "if", "1", "a.b", strings.Repeat("n", 17)}[r.Intn(6)])
	case *int:
		return swap(p, *p+r.Intn(41)-20)
	case *int64:
		return swap(p, *p^(1<<r.Intn(64)))
	case *api.Type:
		return swap(p, *p+api.Type(r.Intn(256)))
	case *[]string:
		return swap(p, longer(*p, "q", r))
	case *[]api.Func:
		return swap(p, longer(*p, function("g"), r))
	case *[]api.Param:
		return swap(p, longer(*p, api.Param{Name: "a", T: api.Int}, r))
	case *[]api.Stmt:
		return swap(p, longer(*p, api.Stmt{Op: api.StBreak}, r))
	case *[]api.Expr:
		return swap(p, longer(*p, number(1), r))
	}
	panic("no place of a tree")
}

func swap[T any](p *T, v T) func() {
	old := *p
	*p = v
	return func() { *p = old }
}

// longer tells a list with an element more, or less.
func longer[T any](l []T, x T, r *rand.Rand) []T {
	if len(l) > 0 && r.Intn(2) == 0 {
		return l[1:]
	}
	return append(slices.Clone(l), x)
}

// plain makes empty lists nil ones, which mean the same.
func plain(f api.File) api.File {
	if len(f.Imports) == 0 {
		f.Imports = nil
	}
	f.Funcs = each(f.Funcs, plainFunc)
	return f
}

func plainFunc(f api.Func) api.Func {
	f.Params, f.Body = each(f.Params, func(p api.Param) api.Param { return p }), each(f.Body, plainStmt)
	return f
}

func plainStmt(s api.Stmt) api.Stmt {
	s.E, s.Body, s.Else = plainExpr(s.E), each(s.Body, plainStmt), each(s.Else, plainStmt)
	return s
}

func plainExpr(e api.Expr) api.Expr {
	e.X = each(e.X, plainExpr)
	return e
}

func each[T any](l []T, f func(T) T) []T {
	var made []T
	for _, x := range l {
		made = append(made, f(x))
	}
	return made
}

func wantSame(a, b api.File) bool {
	return reflect.DeepEqual(plain(a), plain(b))
}

// wantExprs tells all expressions of statements that count.
func wantExprs(l []api.Stmt) []api.Expr {
	var all []api.Expr
	for _, s := range l {
		none := s.Op == api.StBreak || s.Op == api.StNext || s.Op == api.StReturn && reflect.DeepEqual(plainExpr(s.E), api.Expr{})
		if !none {
			all = append(all, wantParts(s.E)...)
		}
		all = append(append(all, wantExprs(s.Body)...), wantExprs(s.Else)...)
	}
	return all
}

func wantParts(e api.Expr) []api.Expr {
	all := []api.Expr{e}
	for _, x := range e.X {
		all = append(all, wantParts(x)...)
	}
	return all
}

func wantStmts(l []api.Stmt) int {
	n := len(l)
	for _, s := range l {
		n += wantStmts(s.Body) + wantStmts(s.Else)
	}
	return n
}

func wantCount(f api.File) int {
	n := len(f.Funcs)
	for _, g := range f.Funcs {
		n += wantStmts(g.Body) + len(wantExprs(g.Body))
	}
	return n
}

func wantCalls(f api.Func) []string {
	var l []string
	for _, e := range wantExprs(f.Body) {
		if e.Op == api.ExCall {
			l = append(l, strings.TrimPrefix(e.Q+"."+e.S, "."))
		}
	}
	slices.Sort(l)
	return slices.Compact(l)
}

// wantRight, and those below it, say of each op what it has; what they do not name must be nothing.
func wantRight(f api.File) bool {
	ok := (lex.Name(f.Name) || lex.Key(f.Name)) && len(f.Imports) <= 8 && len(f.Funcs) <= 32
	for _, s := range f.Imports {
		ok = ok && (lex.Name(s) || lex.Key(s))
	}
	for _, g := range f.Funcs {
		ok = ok && lex.Name(g.Name) && len(g.Params) <= 4 && g.Result <= 2 && wantRightStmts(g.Body)
		for _, p := range g.Params {
			ok = ok && lex.Name(p.Name) && (p.T == 1 || p.T == 2)
		}
	}
	return ok
}

func wantRightStmts(l []api.Stmt) bool {
	for _, s := range l {
		if !wantRightStmt(s) {
			return false
		}
	}
	return true
}

func wantRightStmt(s api.Stmt) bool {
	rest := plainStmt(s)
	rest.Op = 0
	ok := wantRightExpr(s.E)
	switch s.Op {
	case api.StDef, api.StSet:
		ok, rest.S = ok && lex.Name(s.S), ""
	case api.StIf:
		ok, rest.Body, rest.Else = ok && wantRightStmts(s.Body) && wantRightStmts(s.Else), nil, nil
	case api.StFor:
		ok, rest.Body = ok && wantRightStmts(s.Body), nil
	case api.StReturn:
		ok = ok || reflect.DeepEqual(rest.E, api.Expr{})
	case api.StCall:
		ok = ok && s.E.Op == api.ExCall
	case api.StBreak, api.StNext:
		return reflect.DeepEqual(rest, api.Stmt{})
	case api.StPrint:
	default:
		return false
	}
	rest.E = api.Expr{}
	return ok && reflect.DeepEqual(rest, api.Stmt{})
}

func wantRightExpr(e api.Expr) bool {
	rest := plainExpr(e)
	rest.Op, rest.X = 0, nil
	ok := true
	for _, x := range e.X {
		ok = ok && wantRightExpr(x)
	}
	n := len(e.X)
	switch {
	case e.Op == api.ExNum:
		ok, rest.N = e.N >= 0 && n == 0, 0
	case e.Op == api.ExBool:
		ok, rest.N = (e.N == 0 || e.N == 1) && n == 0, 0
	case e.Op == api.ExName:
		ok, rest.S = lex.Name(e.S) && n == 0, ""
	case e.Op == api.ExCall:
		ok, rest.S, rest.Q = ok && lex.Name(e.S) && (e.Q == "" || lex.Name(e.Q)) && n <= 255, "", ""
	case e.Op == api.ExNeg || e.Op == api.ExNot:
		ok = ok && n == 1
	case e.Op >= api.ExMul && e.Op <= api.ExOr:
		ok = ok && n == 2
	default:
		return false
	}
	return ok && reflect.DeepEqual(rest, api.Expr{})
}

// spoilt calls with many trees, most of them with something spoilt, and the right ones that they were made from.
func spoilt(f func(was, is api.File)) {
	r := rand.New(rand.NewSource(90))
	for _, was := range trees(200) {
		is := anew(was)
		f(was, is)
		l := places(&is)
		r.Shuffle(len(l), func(i, j int) { l[i], l[j] = l[j], l[i] })
		for _, p := range l[:min(len(l), 100)] {
			back := spoil(p, r)
			f(was, is)
			back()
		}
	}
}

// anew tells a tree that shares no list with another one.
func anew(f api.File) api.File {
	f = plain(f)
	f.Imports = slices.Clone(f.Imports)
	return f
}

func TestP901EndsAtAnyTree(t *testing.T) {
	exprs := []api.Expr{{}, endless(api.ExAdd), endless(api.ExCall), endless(0), endless(math.MinInt), crowd(60), chain(1 << 18), {Op: api.ExNum, X: make([]api.Expr, 1<<20)}}
	stmts := []api.Stmt{{}, endlessStmt(api.StIf), endlessStmt(api.StFor), endlessStmt(api.StBreak), endlessStmt(api.StReturn), endlessStmt(-1), tower(1 << 17), {Op: api.StIf, Else: make([]api.Stmt, 1<<20)}}
	for _, e := range exprs {
		SameExpr(e, e)
		for op := range api.StNext + 2 {
			stmts = append(stmts, api.Stmt{Op: op, E: e})
		}
	}
	for _, s := range stmts {
		f := inBody(s)
		f.Funcs = append(f.Funcs, function("g", s, s))
		Same(f, f)
		Right(f)
		Calls(f.Funcs[0])
		Calls(f.Funcs[1])
		Find(f, "f")
		Find(f, "g")
		for _, most := range []int{math.MinInt, -1, 0, 1 << 20, math.MaxInt} {
			Count(f, most)
		}
	}
	many := api.File{Imports: make([]string, 1<<20), Funcs: make([]api.Func, 1<<20)}
	Same(many, many)
	Right(many)
	Count(many, math.MaxInt)
	Find(many, "")
}

// All that has up to 100000 nodes is told of, however deep.
func TestP901ManyNodes(t *testing.T) {
	for what, f := range map[string]api.File{
		"deep": within(chain(99998)),
		"in":   inBody(tower(49999), api.Stmt{Op: api.StBreak}),
		"wide": inBody(slices.Repeat([]api.Stmt{{Op: api.StNext}}, 99999)...),
		"back": inBody(slices.Repeat([]api.Stmt{{Op: api.StReturn}}, 99999)...),
	} {
		if n := Count(f, math.MaxInt); n != 100000 {
			t.Errorf("%s: %d nodes", what, n)
		}
		if n := Count(f, 99999); n != 100000 {
			t.Errorf("%s: %d nodes of at most 99999", what, n)
		}
		if n := Count(f, 99998); n != 99999 {
			t.Errorf("%s: %d nodes of at most 99998", what, n)
		}
		if !Same(f, f) || !Right(f) {
			t.Errorf("%s: not the same, or not right", what)
		}
		if g, ok := Find(f, "f"); !ok || !Same(file(g), f) {
			t.Errorf("%s: not found", what)
		}
	}
	if e := chain(100000); !SameExpr(e, e) {
		t.Error("a deep expression is not the same")
	}
	deep := chain(99998)
	last := &deep
	for len(last.X) > 0 {
		last = &last.X[0]
	}
	*last = call("q", "f")
	if l := Calls(within(deep).Funcs[0]); !slices.Equal(l, []string{"q.f"}) {
		t.Errorf("deep calls %q", l)
	}
}

func TestP901NothingIsChanged(t *testing.T) {
	for _, f := range trees(100) {
		was := anew(f)
		Same(f, f)
		Count(f, 100)
		Right(f)
		for _, g := range f.Funcs {
			Calls(g)
			Find(f, g.Name)
		}
		if !wantSame(f, was) {
			t.Fatalf("changed: %v", f)
		}
	}
}

func TestP901SharesNothing(t *testing.T) {
	b := []byte("fxqgab")
	at := func(i int) string { return unsafe.String(&b[i], 1) }
	f := api.Func{Name: at(0), Params: []api.Param{{Name: at(1), T: api.Int}}, Result: api.Bool, Body: []api.Stmt{
		{Op: api.StSet, S: at(4), E: call(at(2), at(3), call("", at(5)))},
		{Op: api.StIf, E: name(at(4)), Body: []api.Stmt{{Op: api.StBreak}}, Else: []api.Stmt{{Op: api.StNext}}},
	}}
	whole := file(f)
	want := anew(whole)
	for i := range want.Funcs[0].Body {
		want.Funcs[0].Body[i].S = strings.Clone(want.Funcs[0].Body[i].S)
	}
	g, ok := Find(whole, "f")
	calls := Calls(f)
	other, _ := Find(whole, "f")
	clear(other.Params[:cap(other.Params)])
	clear(other.Body[1].Body[:cap(other.Body[1].Body)])
	clear(other.Body[1].Else[:cap(other.Body[1].Else)])
	clear(other.Body[0].E.X[:cap(other.Body[0].E.X)])
	clear(other.Body[:cap(other.Body)])
	clear(whole.Funcs[0].Params)
	clear(f.Body[1].Body)
	clear(f.Body[1].Else)
	clear(f.Body[0].E.X)
	clear(f.Body)
	copy(b, "------")
	wanted := api.Func{Name: "f", Params: []api.Param{{Name: "x", T: api.Int}}, Result: api.Bool, Body: []api.Stmt{
		{Op: api.StSet, S: "a", E: call("q", "g", call("", "b"))},
		{Op: api.StIf, E: name("a"), Body: []api.Stmt{{Op: api.StBreak}}, Else: []api.Stmt{{Op: api.StNext}}},
	}}
	if !ok || !wantSame(file(g), file(wanted)) {
		t.Errorf("found %v", g)
	}
	if !slices.Equal(calls, []string{"b", "q.g"}) {
		t.Errorf("calls %q", calls)
	}
}

func TestP901AtTheSameTime(t *testing.T) {
	all := trees(20)
	var w sync.WaitGroup
	for range 8 {
		w.Go(func() {
			for _, f := range all {
				if !Same(f, f) || !Right(f) || Count(f, math.MaxInt) != wantCount(f) {
					t.Error("not as alone")
				}
			}
		})
	}
	w.Wait()
}

func TestP902SameIsOfAllFields(t *testing.T) {
	n := 0
	spoilt(func(was, is api.File) {
		want := wantSame(was, is)
		if Same(was, is) != want || Same(is, was) != want {
			t.Fatalf("same %v: %v %v", want, was, is)
		}
		if !want {
			n++
		}
	})
	if n < 5000 {
		t.Errorf("just %d that differ", n)
	}
}

func TestP902SameExpr(t *testing.T) {
	r := rand.New(rand.NewSource(91))
	for range 300 {
		was := maker{r}.expr(4)
		is := plainExpr(was)
		if !SameExpr(was, is) {
			t.Fatalf("not the same: %v", was)
		}
		for _, p := range placesOfExpr(&is) {
			back := spoil(p, r)
			if want := reflect.DeepEqual(plainExpr(was), plainExpr(is)); SameExpr(was, is) != want || SameExpr(is, was) != want {
				t.Fatalf("same %v: %v %v", want, was, is)
			}
			back()
		}
	}
}

func TestP902NilAndEmptyAreTheSame(t *testing.T) {
	a := api.File{Funcs: []api.Func{{Body: []api.Stmt{{E: api.Expr{}}}}}}
	b := api.File{Imports: []string{}, Funcs: []api.Func{{Params: []api.Param{}, Body: []api.Stmt{{E: api.Expr{X: []api.Expr{}}, Body: []api.Stmt{}, Else: []api.Stmt{}}}}}}
	if !Same(a, b) || !Same(b, a) || !Same(api.File{}, api.File{Funcs: []api.Func{}}) {
		t.Error("nil and empty lists differ")
	}
	if !SameExpr(api.Expr{}, api.Expr{X: []api.Expr{}}) {
		t.Error("nil and empty parts differ")
	}
	back := api.Stmt{Op: api.StReturn, E: api.Expr{X: []api.Expr{}}}
	if n := Count(inBody(back), 9); n != 2 {
		t.Errorf("return: %d nodes", n)
	}
	if !Right(inBody(back)) {
		t.Error("return is not right")
	}
}

func TestP902Count(t *testing.T) {
	for n, f := range []api.File{
		{Name: "p", Imports: []string{"q"}},
		file(api.Func{Name: "f", Params: []api.Param{{Name: "a", T: api.Int}}, Result: api.Int}),
		inBody(api.Stmt{Op: api.StBreak}),
		within(number(1)),
		inBody(api.Stmt{Op: api.StReturn, E: number(0)}, api.Stmt{Op: api.StReturn}),
		within(made(api.ExAdd, number(1), number(2))),
		file(function("f", printed(number(1))), function("f", printed(number(1)))),
	} {
		if got := Count(f, 100); got != n {
			t.Errorf("%d nodes, want %d: %v", got, n, f)
		}
	}
}

// An expression counts where its statement may have one, whatever it is; the zero one of a return does not.
func TestP902CountOfOdd(t *testing.T) {
	odd := api.Expr{S: "f", X: []api.Expr{call("", "g")}}
	for op := -1; op <= api.StNext+1; op++ {
		none, some := 3, 4
		switch op {
		case api.StReturn:
			none = 2
		case api.StBreak, api.StNext:
			none, some = 2, 2
		}
		if n := Count(inBody(api.Stmt{Op: op}), 100); n != none {
			t.Errorf("op %d, zero: %d nodes, want %d", op, n, none)
		}
		if n := Count(inBody(api.Stmt{Op: op, E: odd}), 100); n != some {
			t.Errorf("op %d: %d nodes, want %d", op, n, some)
		}
		if n := Count(inBody(api.Stmt{Op: op, Else: []api.Stmt{{Op: api.StBreak}}}), 100); n != none+1 {
			t.Errorf("op %d, else: %d nodes, want %d", op, n, none+1)
		}
		if l := Calls(function("f", api.Stmt{Op: op, E: odd})); (len(l) == 1) != (some == 4) {
			t.Errorf("op %d: calls %q", op, l)
		}
	}
}

func TestP902CountOfMany(t *testing.T) {
	spoilt(func(_, f api.File) {
		want := wantCount(f)
		for _, most := range []int{0, 3, want - 2, want - 1, want, want + 1, 100000} {
			if n := Count(f, most); n != max(0, min(want, most+1)) {
				t.Fatalf("%d nodes of at most %d, want %d: %v", n, most, want, f)
			}
		}
	})
}

func TestP902CountAtMost(t *testing.T) {
	f := within(made(api.ExAdd, number(1), number(2)))
	for most, want := range map[int]int{math.MinInt: 0, -2: 0, -1: 0, 0: 1, 1: 2, 3: 4, 4: 5, 5: 5, 6: 5, math.MaxInt: 5} {
		if n := Count(f, most); n != want {
			t.Errorf("at most %d: %d, want %d", most, n, want)
		}
	}
	for _, f := range []api.File{within(endless(api.ExAdd)), inBody(endlessStmt(api.StBreak)), {Funcs: make([]api.Func, 1<<18)}} {
		for _, most := range []int{0, 7, 99999} {
			if n := Count(f, most); n != most+1 {
				t.Errorf("without an end, at most %d: %d", most, n)
			}
		}
	}
}

func TestP902Parts(t *testing.T) {
	want := map[int]int{
		api.ExNum: 0, api.ExBool: 0, api.ExName: 0, api.ExCall: -1, api.ExNeg: 1, api.ExNot: 1,
		api.ExMul: 2, api.ExDiv: 2, api.ExRem: 2, api.ExAdd: 2, api.ExSub: 2,
		api.ExEq: 2, api.ExNe: 2, api.ExLt: 2, api.ExLe: 2, api.ExGt: 2, api.ExGe: 2, api.ExAnd: 2, api.ExOr: 2,
	}
	for op := -300; op < 300; op++ {
		n, ok := want[op]
		if !ok {
			n = -1
		}
		if Parts(op) != n {
			t.Errorf("op %d: %d parts, want %d", op, Parts(op), n)
		}
	}
	for _, op := range []int{math.MinInt, math.MaxInt, 1 << 32, 1<<32 + 1, 257} {
		if Parts(op) != -1 {
			t.Errorf("op %d: %d parts", op, Parts(op))
		}
	}
}

func TestP903RightOfMany(t *testing.T) {
	right, wrong := 0, 0
	spoilt(func(_, f api.File) {
		want := wantRight(f)
		if Right(f) != want {
			t.Fatalf("right %v: %v", want, f)
		}
		if want {
			right++
		} else {
			wrong++
		}
	})
	if right < 500 || wrong < 5000 {
		t.Errorf("%d right, %d wrong", right, wrong)
	}
}

func TestP903RightExpr(t *testing.T) {
	n := number(1)
	long := strings.Repeat("a", 17)
	for i, e := range []api.Expr{
		number(0), number(math.MaxInt64), {Op: api.ExBool}, {Op: api.ExBool, N: 1}, name("x"), name(long[1:]),
		call("", "f"), call("q", "f"), call("", "f", slices.Repeat([]api.Expr{n}, 255)...), call("", "f", call("q", "g", n)),
		made(api.ExNeg, n), made(api.ExNot, n), made(api.ExMul, n, n), made(api.ExOr, n, made(api.ExAnd, n, n)),
	} {
		if !Right(within(e)) {
			t.Errorf("%d: not right: %v", i, e)
		}
	}
	for i, e := range []api.Expr{
		{}, {Op: -1}, {Op: 20}, {Op: 20, X: []api.Expr{n, n}}, {Op: 257, N: 1},
		number(-1), number(math.MinInt64), {Op: api.ExNum, S: "x"}, {Op: api.ExNum, Q: "x"}, made(api.ExNum, n),
		{Op: api.ExBool, N: 2}, {Op: api.ExBool, N: -1}, {Op: api.ExBool, S: "true"}, made(api.ExBool, n),
		name(""), name("if"), name("1"), name(long), {Op: api.ExName, S: "x", Q: "q"}, {Op: api.ExName, S: "x", N: 1}, {Op: api.ExName, S: "x", X: []api.Expr{n}},
		call("", ""), call("q", ""), call("if", "f"), call("q", "if"), call(long, "f"), call("q", long), {Op: api.ExCall, S: "f", N: 1},
		call("", "f", slices.Repeat([]api.Expr{n}, 256)...), call("", "f", n, api.Expr{}), call("", "f", call("", "g", number(-1))),
		made(api.ExNeg), made(api.ExNeg, n, n), made(api.ExNeg, api.Expr{}), {Op: api.ExNot, X: []api.Expr{n}, N: 1}, {Op: api.ExNot, X: []api.Expr{n}, S: "x"},
		made(api.ExMul), made(api.ExMul, n), made(api.ExMul, n, n, n), made(api.ExGe, n, number(-1)), made(api.ExGe, number(-1), n), {Op: api.ExGe, X: []api.Expr{n, n}, Q: "q"},
	} {
		if Right(within(e)) {
			t.Errorf("%d: right: %v", i, e)
		}
	}
}

func TestP903RightStmt(t *testing.T) {
	n, f := number(1), call("q", "f")
	in := []api.Stmt{{Op: api.StBreak}}
	for i, s := range []api.Stmt{
		{Op: api.StDef, S: "x", E: n}, {Op: api.StSet, S: "x", E: n}, {Op: api.StIf, E: n}, {Op: api.StIf, E: n, Body: in}, {Op: api.StIf, E: n, Else: in}, {Op: api.StFor, E: n}, {Op: api.StFor, E: n, Body: in},
		{Op: api.StReturn}, {Op: api.StReturn, E: n}, {Op: api.StPrint, E: n}, {Op: api.StCall, E: f}, {Op: api.StBreak}, {Op: api.StNext},
	} {
		if !Right(inBody(s)) {
			t.Errorf("%d: not right: %v", i, s)
		}
	}
	for i, s := range []api.Stmt{
		{}, {Op: -1}, {Op: 10}, {Op: 10, E: n}, {E: n},
		{Op: api.StDef, S: "x"}, {Op: api.StDef, E: n}, {Op: api.StSet, S: "if", E: n}, {Op: api.StSet, S: "x", E: n, Body: in}, {Op: api.StDef, S: "x", E: n, Else: in},
		{Op: api.StIf, Body: in}, {Op: api.StIf, S: "x", E: n}, {Op: api.StFor}, {Op: api.StFor, E: n, Else: in}, {Op: api.StFor, E: n, S: "x"},
		{Op: api.StReturn, E: api.Expr{N: 1}}, {Op: api.StReturn, E: api.Expr{S: "x"}}, {Op: api.StReturn, E: api.Expr{Q: "x"}}, {Op: api.StReturn, E: api.Expr{X: []api.Expr{n}}}, {Op: api.StReturn, Body: in},
		{Op: api.StPrint}, {Op: api.StPrint, E: n, Else: in}, {Op: api.StCall}, {Op: api.StCall, E: n}, {Op: api.StCall, E: call("", "")}, {Op: api.StCall, E: f, Body: in},
		{Op: api.StBreak, E: n}, {Op: api.StNext, E: f}, {Op: api.StBreak, S: "x"}, {Op: api.StNext, Body: in}, {Op: api.StNext, Else: in},
	} {
		for _, at := range []api.Stmt{s, {Op: api.StIf, E: n, Body: []api.Stmt{s}}, {Op: api.StIf, E: n, Else: []api.Stmt{in[0], s}}, {Op: api.StFor, E: n, Body: []api.Stmt{s}}} {
			if Right(inBody(in[0], at)) {
				t.Errorf("%d: right: %v", i, at)
			}
		}
	}
}

func TestP903RightFile(t *testing.T) {
	long := strings.Repeat("a", 17)
	four := slices.Repeat([]api.Param{{Name: "a", T: api.Bool}}, 4)
	for i, f := range []api.File{
		{Name: "p"}, {Name: "import"}, {Name: long[1:]}, {Name: "p", Imports: []string{"q", "for", "q", "P", "_", "a", "b", "c"}},
		{Name: "p", Funcs: slices.Repeat([]api.Func{function("f")}, 32)}, file(api.Func{Name: "f", Params: four, Result: api.Bool}), file(api.Func{Name: "f", Result: api.Int}),
	} {
		if !Right(f) {
			t.Errorf("%d: not right: %v", i, f)
		}
	}
	for i, f := range []api.File{
		{}, {Name: long}, {Name: "a.b"}, {Name: "1"}, {Name: "p", Imports: []string{""}}, {Name: "p", Imports: []string{"q", long}}, {Name: "p", Imports: slices.Repeat([]string{"q"}, 9)},
		{Name: "p", Funcs: slices.Repeat([]api.Func{function("f")}, 33)}, file(function("")), file(function("f"), function("if")), file(function(long)),
		file(api.Func{Name: "f", Params: append(four, four[0])}), file(api.Func{Name: "f", Result: 3}), file(api.Func{Name: "f", Result: 255}),
		file(api.Func{Name: "f", Params: []api.Param{{Name: "a"}}}), file(api.Func{Name: "f", Params: []api.Param{{Name: "a", T: 3}}}), file(api.Func{Name: "f", Params: []api.Param{four[0], {Name: "if", T: api.Int}}}), file(api.Func{Name: "f", Params: []api.Param{{T: api.Int}}}),
	} {
		if Right(f) {
			t.Errorf("%d: right: %v", i, f)
		}
	}
}

// What has no end is not right, so that those who ask first may go through the rest.
func TestP903RightEnds(t *testing.T) {
	for _, f := range []api.File{within(endless(api.ExAdd)), within(crowd(40)), within(chain(100000))} {
		if Right(f) || Same(f, f) {
			t.Error("right, or the same, with too many nodes")
		}
		if g, ok := Find(f, "f"); ok || !reflect.DeepEqual(g, api.Func{}) {
			t.Error("found, with too many nodes")
		}
		f.Funcs = append(f.Funcs, function("g"))
		if g, ok := Find(f, "g"); !ok || g.Name != "g" {
			t.Error("not found beside one with too many nodes")
		}
	}
}

func TestP903Calls(t *testing.T) {
	f := function("h", printed(made(api.ExAdd, call("", "f"), call("q", "G"))))
	if l := Calls(f); !slices.Equal(l, []string{"f", "q.G"}) {
		t.Errorf("calls %q", l)
	}
	in := call("b", "x", call("b", "x"), made(api.ExNot, call("a", "z", call("", "B"))))
	f = function("h",
		api.Stmt{Op: api.StCall, E: call("", "f")},
		api.Stmt{Op: api.StIf, E: name("y"), Body: []api.Stmt{printed(in)}, Else: []api.Stmt{{Op: api.StReturn, E: call("", "é")}}},
		api.Stmt{Op: api.StFor, E: call("", "b"), Body: []api.Stmt{{Op: api.StDef, S: "f", E: call("", "f")}}},
	)
	if l := Calls(f); !slices.Equal(l, []string{"B", "a.z", "b", "b.x", "f", "é"}) {
		t.Errorf("calls %q", l)
	}
	// One that is told alike is told once.
	f = function("h", printed(call("a", "b")), printed(call("", "a.b")), printed(call("", "")), printed(call(".", "")))
	if l := Calls(f); !slices.Equal(l, []string{"", "..", "a.b"}) {
		t.Errorf("calls %q", l)
	}
	for _, f := range []api.Func{{}, function("h"), function("h", printed(name("f"))), function("h", printed(api.Expr{S: "f"}))} {
		if l := Calls(f); len(l) != 0 {
			t.Errorf("calls %q", l)
		}
	}
}

func TestP903CallsOfMany(t *testing.T) {
	spoilt(func(_, f api.File) {
		for _, g := range f.Funcs {
			if l, want := Calls(g), wantCalls(g); !slices.Equal(l, want) {
				t.Fatalf("calls %q, want %q", l, want)
			}
		}
	})
}

func TestP903Find(t *testing.T) {
	a, b, c := function("f", printed(number(1))), function("g", api.Stmt{}), function("f", printed(number(2)))
	odd := function("", printed(number(3)))
	f := api.File{Funcs: []api.Func{b, a, c, odd}}
	for s, want := range map[string]api.Func{"f": a, "g": b, "": odd} {
		if g, ok := Find(f, s); !ok || !wantSame(file(g), file(want)) {
			t.Errorf("%q: %v %v", s, g, ok)
		}
	}
	for _, s := range []string{"F", "f ", "h", "fg", strings.Repeat("f", 1<<20)} {
		if g, ok := Find(f, s); ok || !reflect.DeepEqual(g, api.Func{}) {
			t.Errorf("%q: %v %v", s, g, ok)
		}
	}
	if g, ok := Find(api.File{Name: "f", Imports: []string{"f"}}, "f"); ok || !reflect.DeepEqual(g, api.Func{}) {
		t.Errorf("in no functions: %v", g)
	}
}

func TestP903FindOfMany(t *testing.T) {
	spoilt(func(_, f api.File) {
		told := map[string]bool{}
		for _, g := range f.Funcs {
			if told[g.Name] {
				continue
			}
			told[g.Name] = true
			if got, ok := Find(f, g.Name); !ok || !wantSame(file(got), file(g)) {
				t.Fatalf("%q: %v, want %v", g.Name, got, g)
			}
		}
	})
}

func TestP904AnotherNumber(t *testing.T) {
	for _, was := range trees(60) {
		is := anew(was)
		if !Same(was, is) || !Same(is, is) {
			t.Fatalf("not the same as itself: %v", was)
		}
		for _, p := range places(&is) {
			n, ok := p.(*int64)
			if !ok {
				continue
			}
			for bit := range 64 {
				*n ^= 1 << bit
				if Same(was, is) {
					t.Fatalf("the same with another number: %v", was)
				}
				*n ^= 1 << bit
			}
		}
	}
}
