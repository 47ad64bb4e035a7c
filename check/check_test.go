package check

import (
	"math"
	"slices"
	"strconv"
	"strings"
	"testing"

	"treadmill/api"
	"treadmill/parse"
	"treadmill/tree"
	"treadmill/types"
)

// odd is a type that there is not: only lists and a Scope that are handed in have it.
const odd api.Type = 7

func sig(name string, result api.Type, l ...api.Type) api.Sig {
	return api.Sig{Name: name, Params: l, Result: result}
}

func mustParse(t *testing.T, text string) api.File {
	t.Helper()
	f, no := parse.File(text)
	if no != api.OK {
		t.Fatalf("%q: error %d", text, no)
	}
	return f
}

func mustParseExpr(t *testing.T, text string) api.Expr {
	t.Helper()
	e, no := parse.Expr(text)
	if no != api.OK {
		t.Fatalf("%q: error %d", text, no)
	}
	return e
}

// imports is what the texts of these tests may import.
func imports() []api.Import {
	return []api.Import{
		{Path: "q", Sigs: []api.Sig{sig("F", api.Int, api.Int), sig("G", api.Bool), sig("F", api.Bool), sig("P", api.NoType), sig("low", api.Int)}},
		{Path: "r", Sigs: []api.Sig{sig("F", api.Bool, api.Int, api.Bool), sig("O", odd), sig("Eat", api.Int, odd), sig("No", api.Int, api.NoType)}},
		{Path: "q", Sigs: []api.Sig{sig("F", api.NoType), sig("Second", api.Int)}},
		{Path: "", Sigs: []api.Sig{sig("Bare", api.Int)}},
		{Path: "if"},
	}
}

func wantFile(t *testing.T, text string, want api.Errno) {
	t.Helper()
	if no := File(mustParse(t, text), imports()); no != want {
		t.Errorf("%q: error %d, want %d", text, no, want)
	}
}

// wantBody holds a function's statements against what is to be said of them, behind functions that they may call.
func wantBody(t *testing.T, params, result, body string, want api.Errno) {
	t.Helper()
	const others = "func one(a int) int { return a }\nfunc is() bool { return true }\nfunc none() {}\nfunc both(a int, b bool) bool { return b }\n"
	wantFile(t, "package p\nimport \"q\"\n"+others+"func f("+params+") "+result+" { "+body+" }", want)
}

func wantProgram(t *testing.T, want api.Errno, texts ...string) {
	t.Helper()
	var l []api.File
	for _, s := range texts {
		l = append(l, mustParse(t, s))
	}
	if no := Program(l); no != want {
		t.Errorf("%q: error %d, want %d", texts, no, want)
	}
}

func TestP1402Example(t *testing.T) {
	wantBody(t, "", "", "x := 1; x = true", api.ErrType)
	wantBody(t, "", "", "x := 1; x = 2", api.OK)
	wantBody(t, "", "", "print(1 + true)", api.ErrType)
}

// scoped tells names: a Int, b Bool, c an inner Bool that hides an Int, odd and none of types that are neither.
func scoped() *types.Scope {
	s := &types.Scope{}
	s.Open()
	s.Def("a", api.Int)
	s.Def("b", api.Bool)
	s.Def("c", api.Int)
	s.Def("odd", odd)
	s.Def("none", api.NoType)
	s.Open()
	s.Def("c", api.Bool)
	s.Def("e", api.Int)
	return s
}

func ownSigs() []api.Sig {
	return []api.Sig{
		sig("one", api.Int, api.Int), sig("is", api.Bool), sig("nothing", api.NoType), sig("both", api.Bool, api.Int, api.Bool), sig("one", api.Bool, api.Bool),
		sig("a", api.Int), sig("four", api.NoType, 1, 2, 1, 2), sig("strange", odd, odd), sig("eat", api.Int, api.NoType), sig("q", api.Bool),
	}
}

func TestP1402Type(t *testing.T) {
	const no = 255
	for text, want := range map[string]api.Type{
		"0": api.Int, "9223372036854775807": api.Int, "true": api.Bool, "false": api.Bool,
		"a": api.Int, "b": api.Bool, "c": api.Bool, "e": api.Int, "odd": odd, "none": api.NoType, "d": no, "one": no, "q": no, "A": no,
		"-a": api.Int, "-b": no, "-1": api.Int, "--1": api.Int, "!b": api.Bool, "!a": no, "!true": api.Bool, "!!b": api.Bool, "!-a": no, "-!b": no, "-d": no, "!d": no, "-odd": no, "!odd": no, "-none": no, "!none": no,
		"a == e": api.Bool, "b != c": api.Bool, "a == b": no, "b != a": no, "odd == odd": no, "none != none": no, "odd == none": no, "a == odd": no,
		"a < e == b": api.Bool, "a == (e < b)": no, "b == a < e": no, "b == (a < e)": api.Bool, "a < (e == b)": no, "1 + 2 * a - one(3)": api.Int, "a < e && c || !b": api.Bool, "a && b": no, "a || 1": no,
		"one(1)": api.Int, "one(b)": no, "one()": no, "one(1, 2)": no, "one(one(e))": api.Int, "one(d)": no, "is()": api.Bool, "is(1)": no, "is(nothing())": no,
		"both(1, true)": api.Bool, "both(true, 1)": no, "both(1, is())": api.Bool, "both(one(a), !c)": api.Bool, "both(1)": no, "both(1, true, 1)": no,
		"nothing()": api.NoType, "nothing(1)": no, "four(1, true, a, c)": api.NoType, "four(1, true, a, a)": no, "a()": api.Int, "b()": no, "-nothing()": no, "nothing() == nothing()": no, "!nothing()": no, "one(nothing())": no, "1 + nothing()": no,
		"strange(odd)": odd, "strange(a)": no, "strange(strange(odd))": odd, "strange(odd) == strange(odd)": no, "eat(nothing())": api.Int, "eat(none)": api.Int, "eat(four(1, b, 1, b))": api.Int, "eat()": no, "eat(1)": no, "eat(d)": no,
		"q.F(1)": api.Int, "q.F()": no, "q.G()": api.Bool, "q.P()": api.NoType, "q.low()": api.Int, "q.Second()": no, "q.one(1)": no, "q()": api.Bool, "F(1)": no, "Bare()": no,
		"r.F(1, b)": api.Bool, "r.F(1)": no, "r.G()": no, "r.O()": odd, "r.Eat(r.O())": api.Int, "r.Eat(odd)": api.Int, "r.Eat(1)": no, "r.No(q.P())": api.Int, "r.No(nothing())": api.Int, "r.No()": no, "s.F(1)": no, "p.one(1)": no,
		"q.F(one(q.F(-e)))": api.Int, "r.F(q.F(1), r.F(1, is()))": api.Bool, "r.F(q.F(1), r.F(1, a))": no,
	} {
		ok := want != no
		if !ok {
			want = api.NoType
		}
		got, is := Type(mustParseExpr(t, text), scoped(), ownSigs(), imports())
		if got != want || is != ok {
			t.Errorf("%s: %d %v, want %d %v", text, got, is, want, ok)
		}
	}
}

// All ops, with parts of all types.
func TestP1402TypeOfOps(t *testing.T) {
	in := plain{own: ownSigs(), blocks: []map[string]api.Type{{"a": api.Int, "b": api.Bool, "odd": odd, "none": api.NoType}}}
	parts := []api.Expr{name("a"), number(1), name("b"), truth(1), name("odd"), name("none"), name("d"), asked("", "nothing")}
	want := map[int][2]api.Type{api.ExNeg: {1, 1}, api.ExNot: {2, 2}, api.ExEq: {1, 2}, api.ExNe: {1, 2}, api.ExAnd: {2, 2}, api.ExOr: {2, 2}}
	for op := api.ExMul; op <= api.ExSub; op++ {
		want[op] = [2]api.Type{1, 1}
	}
	for op := api.ExLt; op <= api.ExGe; op++ {
		want[op] = [2]api.Type{1, 2}
	}
	for op, w := range want {
		one := []api.Expr{name("a"), number(1)}
		if w[0] == api.Bool {
			one = []api.Expr{name("b"), truth(0)}
		}
		if got, ok := Type(joined(op, one[:tree.Parts(op)]...), scoped(), nil, nil); got != w[1] || !ok {
			t.Errorf("op %d: %d %v", op, got, ok)
		}
		for _, x := range parts {
			for _, y := range parts {
				wantPlainType(t, in, joined(op, []api.Expr{x, y}[:tree.Parts(op)]...))
			}
		}
	}
}

// wantPlainType holds an expression's type against a plain recursion's, where the names of blocks are as in a Scope.
func wantPlainType(t *testing.T, in plain, e api.Expr) bool {
	t.Helper()
	s := &types.Scope{}
	for _, b := range in.blocks {
		s.Open()
		for n, x := range b {
			s.Def(n, x)
		}
	}
	want := in.typeOf(e)
	got, ok := Type(e, s, in.own, in.all)
	if ok && want != show(got) || !ok && (want != nothing || got != api.NoType) {
		t.Errorf("%v: %d %v, want %s", e, got, ok, want)
	}
	return ok
}

func TestP1402TypeOfMany(t *testing.T) {
	m := newMaker(1402, 30)
	typed := 0
	for range 20000 {
		in := plain{own: []api.Sig{sig("F", odd), sig("G", api.NoType, odd)}, all: []api.Import{{Path: "q"}, {Path: "r", Sigs: []api.Sig{sig("H", api.Int, odd)}}, {Path: "q", Sigs: m.sigs("F")}}}
		in.blocks = []map[string]api.Type{{"a": api.Int, "b": api.Int, "odd": odd, "c": api.Bool}, {"b": api.Bool, "none": api.NoType, "odd": odd + 1}}
		in.own = append(m.sigs("a", "F", "H", "G", "F"), in.own...)
		in.all = append([]api.Import{{Path: "r", Sigs: m.sigs("F", "G")}}[:m.Intn(2)], in.all...)
		m.own, m.others, m.blocks = in.own, in.all, in.blocks
		e := m.expr(m.value(), 4)
		if m.Intn(3) == 0 {
			e = m.oddExpr(3)
		}
		if wantPlainType(t, in, e) {
			typed++
		}
	}
	if typed < 5000 || typed > 18000 {
		t.Error("too few of one kind:", typed)
	}
}

// What is not right has no type, wherever it stands, and whatever else would say one.
func TestP1402TypeOfWrong(t *testing.T) {
	x := name("a")
	wrong := []api.Expr{
		{}, {S: "a"}, {Q: "q"}, {X: []api.Expr{x}}, {N: 1}, number(-1), number(math.MinInt64), truth(-1), truth(2), name(""), name("if"), name("1"), name("abcdefghijklmnopq"),
		{Op: api.ExNum, S: "a"}, {Op: api.ExNum, Q: "q"}, {Op: api.ExNum, X: []api.Expr{x}}, {Op: api.ExBool, S: "a"}, {Op: api.ExBool, X: []api.Expr{x}}, {Op: api.ExName, S: "a", N: 1}, {Op: api.ExName, S: "a", Q: "q"}, {Op: api.ExName, S: "a", X: []api.Expr{x}},
		{Op: api.ExCall, S: "is", N: 1}, asked("", ""), asked("", "if"), asked("if", "F", x), asked("", "print"), asked("", "many", slices.Repeat([]api.Expr{x}, 256)...),
		joined(api.ExNeg), joined(api.ExNeg, x, x), joined(api.ExAdd, x), joined(api.ExAdd, x, x, x), joined(api.ExAdd), {Op: api.ExNeg, N: 1, X: []api.Expr{x}}, {Op: api.ExNeg, S: "a", X: []api.Expr{x}}, {Op: api.ExNeg, Q: "a", X: []api.Expr{x}},
		joined(-1, x), joined(math.MinInt, x), joined(api.ExOr+1, x, x), joined(math.MaxInt, x, x), joined(256+api.ExNeg, x), joined(1<<32 + api.ExNum),
	}
	s := scoped()
	for _, n := range []string{"", "if", "1", "abcdefghijklmnopq"} {
		s.Def(n, api.Int)
	}
	own := append(ownSigs(), sig("", api.Int), sig("if", api.Int), sig("print", api.Int), sig("many", api.Int, slices.Repeat([]api.Type{api.Int}, 256)...), sig("any", api.Int, api.Int), sig("any2", api.Int, api.NoType))
	all := append(imports(), api.Import{Path: "if", Sigs: []api.Sig{sig("F", api.Int, api.Int)}})
	for i, e := range wrong {
		for _, whole := range []api.Expr{e, joined(api.ExNeg, e), joined(api.ExAdd, x, e), joined(api.ExEq, e, e), asked("", "any", e), asked("", "any2", e)} {
			if got, ok := Type(whole, s, own, all); got != api.NoType || ok {
				t.Errorf("%d: %d %v of %v", i, got, ok, whole)
			}
		}
	}
	many := slices.Repeat([]api.Expr{x}, 255)
	if got, ok := Type(asked("", "many", many...), s, append([]api.Sig{sig("many", api.Bool, slices.Repeat([]api.Type{api.Int}, 255)...)}, own...), nil); got != api.Bool || !ok {
		t.Error("255 arguments:", got, ok)
	}
}

func TestP1402File(t *testing.T) {
	for text, want := range map[string]api.Errno{
		"package p": api.OK, "package if;": api.OK, "package p\nimport \"q\"\nimport \"r\"": api.OK, "package p\nimport \"if\"": api.OK, "package p\nimport \"p\"": api.ErrMissing,
		"package p\nimport \"s\"": api.ErrMissing, "package p\nimport \"q\"\nimport \"s\"": api.ErrMissing, "package p\nimport \"Q\"": api.ErrMissing,
		"package p\nimport \"q\"\nimport \"q\"": api.ErrType, "package p\nimport \"q\"\nimport \"r\"\nimport \"q\"": api.ErrType,
		// That one is missing is told first, whatever else is wrong.
		"package p\nimport \"s\"\nimport \"s\"": api.ErrMissing, "package p\nimport \"q\"\nimport \"q\"\nimport \"s\"": api.ErrMissing, "package p\nimport \"s\"\nfunc f() { x = 1 }": api.ErrMissing,
		"package p\nfunc f() {}\nfunc g() {}": api.OK, "package p\nfunc f() {}\nfunc F() {}\nfunc f() {}": api.ErrType, "package p\nfunc f() {}\nfunc f() {}": api.ErrType, "package p\nfunc p() {}": api.OK, "package p\nfunc main(a int) int { return a }": api.OK,
		// Functions are called wherever they stand, and may call themselves.
		"package p\nfunc f() int { return g() + f() }\nfunc g() int { return f() }": api.OK,
		// Only what the file imports may be called.
		"package p\nfunc f() { q.P() }": api.ErrType, "package p\nimport \"r\"\nfunc f() { q.P() }": api.ErrType, "package p\nimport \"q\"\nfunc f() { q.P() }": api.OK, "package p\nimport \"q\"\nfunc f() { r.F(1, true) }": api.ErrType,
		"package p\nfunc P() {}\nfunc f() { p.P() }": api.ErrType, "package p\nimport \"q\"\nfunc f() { P() }": api.ErrType, "package p\nimport \"q\"\nfunc f() { q.f() }": api.ErrType,
		// Of those of one path the first one counts.
		"package p\nimport \"q\"\nfunc f() { print(q.F(1)) }": api.OK, "package p\nimport \"q\"\nfunc f() { q.F() }": api.ErrType, "package p\nimport \"q\"\nfunc f() { q.Second() }": api.ErrType,
		"package p\nimport \"q\"\nfunc f() { q.low() }": api.OK, "package p\nimport \"r\"\nfunc f() { r.O() }": api.OK, "package p\nimport \"r\"\nfunc f() { print(r.O()) }": api.ErrType, "package p\nimport \"r\"\nfunc f() { x := r.O() }": api.ErrType, "package p\nimport \"r\"\nfunc f() { print(r.Eat(r.O())) }": api.OK,
		// One function's wrong is the file's.
		"package p\nfunc f() {}\nfunc g() { x = 1 }": api.ErrType, "package p\nfunc f() { x = 1 }\nfunc g() {}": api.ErrType, "package p\nfunc f() { x := 1 }\nfunc g() { x = 1 }": api.ErrType, "package p\nfunc f(x int) {}\nfunc g() { x = 1 }": api.ErrType,
	} {
		wantFile(t, text, want)
	}
	// A package need not let others see anything.
	if no := File(mustParse(t, "package p\nimport \"q\""), []api.Import{{Path: "q"}}); no != api.OK {
		t.Error(no)
	}
	if no := File(mustParse(t, "package p\nimport \"q\""), nil); no != api.ErrMissing {
		t.Error(no)
	}
}

func TestP1402FileNotRight(t *testing.T) {
	bad := api.File{Name: "p", Imports: []string{"s", "s"}, Funcs: []api.Func{{Name: "f", Body: []api.Stmt{set("x", number(-1))}}}}
	for i, f := range []api.File{
		{}, bad, {Name: "p", Imports: []string{""}}, {Name: "p", Imports: slices.Repeat([]string{"s"}, 9)}, {Name: "p", Funcs: []api.Func{{}}}, inBody(api.Stmt{}), inBody(api.Stmt{Op: api.StBreak, S: "a"}), inBody(printed(api.Expr{})), inBody(back(name("if"))),
		{Name: "p", Imports: []string{"q", "q"}, Funcs: slices.Repeat([]api.Func{{Name: "f"}}, 33)}, {Name: "p", Funcs: []api.Func{{Name: "f", Result: odd}}}, {Name: "p", Funcs: []api.Func{{Name: "f", Params: []api.Param{{Name: "a"}}}}},
	} {
		if no := File(f, imports()); no != api.ErrArg {
			t.Errorf("%d: error %d", i, no)
		}
	}
}

func TestP1402Blocks(t *testing.T) {
	for body, want := range map[string]api.Errno{
		"": api.OK, "x := 1": api.OK, "x := 1; x := 2": api.ErrType, "x := 1; x := true": api.ErrType, "x := 1; y := x; x = y": api.OK,
		"x = 1": api.ErrType, "x = x": api.ErrType, "x := x": api.ErrType, "print(x); x := 1": api.ErrType,
		"a = 2; b = true": api.OK, "a = b": api.ErrType, "a := 1": api.ErrType, "b := true": api.ErrType, "a = a + 1": api.OK, "f := 1; f = 2": api.OK, "q := 1; q = q + q.F(q)": api.OK, "one := one(1); print(one(one))": api.OK,
		// Each block may have a name anew, and what it had goes with it.
		"if b { a := true; b = a }; a = 1": api.OK, "if b { a := true; b = a } else { a = 1 }": api.OK, "if b { a := true } else { a = false }": api.ErrType, "if b { x := 1 }; x = 1": api.ErrType, "if b { x := 1 } else { x = 1 }": api.ErrType, "if b { } else { x := 1 }; x = 1": api.ErrType,
		"if b { x := 1 } else { x := true }; x := 1": api.OK, "x := 1; if b { x := true; b = x }; x = 2": api.OK, "x := 1; if b { x = true }": api.ErrType, "x := 1; if b { x := x == 1; b = x; x = !x }": api.OK, "if b { x := 1; x := 2 }": api.ErrType, "if b { } else { x := 1; x := 2 }": api.ErrType,
		"for b { a := true; b = a }; a = 1": api.OK, "for b { x := 1 }; x = 1": api.ErrType, "for b { x := 1; x := 1 }": api.ErrType, "for b { x := 1 }; for b { x := true }": api.OK, "x := b; for x { x := 1; for x == 1 { x := x == 1; if x { x = false } }; x = 2 }": api.OK, "x := 1; for b { x := x == x; if x { x = 1 } }": api.ErrType,
		// What a statement asks is asked ahead of its blocks.
		"if x { x := b; print(x) }": api.ErrType, "for x { x := b; print(x) }": api.ErrType, "x := b; for x { x := 1; print(x) }": api.OK,
		"if b { if b { if b { y := a; a = y } } }; y := b": api.OK, "if b { y := 1; if b { z := y; if b { print(y + z + a) } } }": api.OK, "if b { if b { y := 1 }; print(y) }": api.ErrType,
	} {
		wantBody(t, "a int, b bool", "", body, want)
	}
}

func TestP1402Statements(t *testing.T) {
	for body, want := range map[string]api.Errno{
		"x := none()": api.ErrType, "x := q.P()": api.ErrType, "x := is(); b = x": api.OK, "x := -b": api.ErrType, "x := one(b)": api.ErrType,
		"a = none()": api.ErrType, "a = one(a)": api.OK, "b = one(a)": api.ErrType, "b = q.G()": api.OK, "a = c": api.ErrType,
		"if a { }": api.ErrType, "if 1 { } else { }": api.ErrType, "if a == 1 { }": api.OK, "if none() { }": api.ErrType, "if is() { } else if a { }": api.ErrType, "if is() { } else if b { } else { print(a) }": api.OK, "if both(a, b) { }": api.OK, "if c { }": api.ErrType,
		"for a { }": api.ErrType, "for { }": api.OK, "for true { }": api.OK, "for false { }": api.OK, "for none() { }": api.ErrType, "for a < 1 { }": api.OK, "for 1 { }": api.ErrType, "for c { }": api.ErrType,
		"print(1)": api.OK, "print(b)": api.OK, "print(none())": api.ErrType, "print(c)": api.ErrType, "print(-a)": api.OK, "print(!a)": api.ErrType, "print(q.P())": api.ErrType, "print(f)": api.ErrType,
		"none()": api.OK, "one(1)": api.OK, "one(b)": api.ErrType, "one()": api.ErrType, "g()": api.ErrType, "q.P()": api.OK, "q.F(1)": api.OK, "q.F(b)": api.ErrType, "both(1, b)": api.OK, "both(1, c)": api.ErrType, "f(a, b)": api.OK, "f()": api.ErrType, "a()": api.ErrType, "one(none())": api.ErrType, "none(none())": api.ErrType, "is(none())": api.ErrType,
		"break": api.ErrType, "continue": api.ErrType, "for { break }": api.OK, "for { continue }": api.OK, "for { }; break": api.ErrType, "for { }; continue": api.ErrType, "if b { break }": api.ErrType, "if b { } else { continue }": api.ErrType,
		"for { if b { break } else { continue } }": api.OK, "for { for { break }; break }": api.OK, "for { for { }; continue }": api.OK, "for { for { break } }; break": api.ErrType, "if b { for { break } }; continue": api.ErrType, "for { if b { for { } }; if b { break } }": api.OK,
		// What nobody comes to is asked, too.
		"return; x = 1": api.ErrType, "for { }; x = 1": api.ErrType, "return; print(a)": api.OK, "for { break; x = 1 }": api.ErrType, "if false { x = 1 }": api.ErrType,
	} {
		wantBody(t, "a int, b bool", "", body, want)
	}
}

func TestP1402Returns(t *testing.T) {
	for body, want := range map[string][3]api.Errno{
		// A function without a result, one of int, one of bool.
		"": {api.OK, api.ErrType, api.ErrType}, "return": {api.OK, api.ErrType, api.ErrType}, "return 1": {api.ErrType, api.OK, api.ErrType}, "return b": {api.ErrType, api.ErrType, api.OK}, "return none()": {api.ErrType, api.ErrType, api.ErrType}, "return q.P()": {api.ErrType, api.ErrType, api.ErrType}, "return c": {api.ErrType, api.ErrType, api.ErrType},
		"return one(1)": {api.ErrType, api.OK, api.ErrType}, "return q.G()": {api.ErrType, api.ErrType, api.OK}, "return q.F(1)": {api.ErrType, api.OK, api.ErrType},
		"print(1)": {api.OK, api.ErrType, api.ErrType}, "return 1; print(1)": {api.ErrType, api.ErrType, api.ErrType}, "print(1); return 1": {api.ErrType, api.OK, api.ErrType}, "return 1; return 2": {api.ErrType, api.OK, api.ErrType}, "return b; return 2": {api.ErrType, api.ErrType, api.ErrType},
		"if b { return 1 }": {api.ErrType, api.ErrType, api.ErrType}, "if b { return 1 } else { return 2 }": {api.ErrType, api.OK, api.ErrType}, "if b { return 1 } else { return b }": {api.ErrType, api.ErrType, api.ErrType}, "if b { } else { return 2 }": {api.ErrType, api.ErrType, api.ErrType}, "if b { return b } else if b { return b } else { return b }": {api.ErrType, api.ErrType, api.OK}, "if b { return 1 } else { print(1) }; return 2": {api.ErrType, api.OK, api.ErrType},
		"for { }": {api.OK, api.OK, api.OK}, "for true { }": {api.OK, api.OK, api.OK}, "for b { }": {api.OK, api.ErrType, api.ErrType}, "for false { }": {api.OK, api.ErrType, api.ErrType}, "for !false { }": {api.OK, api.ErrType, api.ErrType}, "for { break }": {api.OK, api.ErrType, api.ErrType}, "for { continue }": {api.OK, api.OK, api.OK}, "for { if b { break } }": {api.OK, api.ErrType, api.ErrType}, "for { for { break } }": {api.OK, api.OK, api.OK}, "for { for { }; break }": {api.OK, api.ErrType, api.ErrType}, "for { return 1 }": {api.ErrType, api.OK, api.ErrType}, "for { return }": {api.OK, api.ErrType, api.ErrType}, "for b { return 1 }": {api.ErrType, api.ErrType, api.ErrType},
		"one(1)": {api.OK, api.ErrType, api.ErrType}, "x := 1; return x": {api.ErrType, api.OK, api.ErrType}, "for { if b { for b { break } } else { return 1 } }": {api.ErrType, api.OK, api.ErrType},
	} {
		for i, result := range []string{"", "int", "bool"} {
			wantBody(t, "a int, b bool", result, body, want[i])
		}
	}
}

func TestP1402Params(t *testing.T) {
	for params, want := range map[string]api.Errno{
		"": api.OK, "a int": api.OK, "a int, b bool, c int, d bool": api.OK, "a int, a int": api.ErrType, "a int, b int, a bool": api.ErrType, "a int, b int, c int, b int": api.ErrType, "f int": api.OK, "q bool": api.OK, "a int, A int": api.OK,
	} {
		wantBody(t, params, "", "", want)
	}
	wantBody(t, "a int, b bool", "", "if b { a := b; print(a == b) }; print(a)", api.OK)
	wantBody(t, "a int, a bool", "int", "return 1", api.ErrType)
}

func TestP1402Ends(t *testing.T) {
	x, end, leave := number(1), back(number(1)), api.Stmt{Op: api.StBreak}
	branch := func(yes, no []api.Stmt) api.Stmt { return api.Stmt{Op: api.StIf, E: x, Body: yes, Else: no} }
	both := branch([]api.Stmt{end}, []api.Stmt{end})
	for i, l := range [][]api.Stmt{
		{end}, {back(api.Expr{})}, {leave, end}, {end, end}, {both}, {branch([]api.Stmt{leave, both}, []api.Stmt{again(truth(1))})}, {again(truth(1))}, {again(truth(1), end)}, {again(truth(1), again(truth(1), leave), again(x, leave))}, {again(truth(1), api.Stmt{Op: api.StNext})}, {printed(x), both},
		{again(truth(1), branch([]api.Stmt{again(truth(0), branch([]api.Stmt{leave}, nil))}, nil))},
	} {
		if !Ends(l) {
			t.Errorf("%d: does not end: %v", i, l)
		}
	}
	for i, l := range [][]api.Stmt{
		nil, {}, {{}}, {leave}, {api.Stmt{Op: api.StNext}}, {end, leave}, {end, printed(x)}, {defined("a", x)}, {set("a", x)}, {printed(x)}, {{Op: api.StCall, E: asked("", "f")}}, {both, printed(x)}, {{Op: -1}}, {{Op: 10}}, {{Op: api.StReturn + 256}},
		{branch(nil, nil)}, {branch([]api.Stmt{end}, nil)}, {branch(nil, []api.Stmt{end})}, {branch([]api.Stmt{end}, []api.Stmt{end, leave})}, {branch([]api.Stmt{both}, []api.Stmt{branch([]api.Stmt{end}, nil)})},
		{again(truth(0))}, {again(x)}, {again(name("true"))}, {again(joined(api.ExNot, truth(0)))}, {again(api.Expr{})}, {again(truth(0), end)}, {again(x, end)}, {again(truth(1), leave)}, {again(truth(1), leave, end)}, {again(truth(1), end, leave)}, {again(truth(1), branch([]api.Stmt{leave}, nil))}, {again(truth(1), branch(nil, []api.Stmt{printed(x), leave}))}, {again(truth(1), again(truth(1), leave), branch([]api.Stmt{branch(nil, []api.Stmt{leave})}, nil))},
	} {
		if Ends(l) {
			t.Errorf("%d: ends: %v", i, l)
		}
	}
}

// What ends hangs on the last statement alone, and on what stands in it.
func TestP1402EndsOfMany(t *testing.T) {
	many := slices.Repeat([]api.Stmt{printed(number(1))}, 300000)
	if Ends(many) || !Ends(append(many, back(number(1)))) {
		t.Error("of many statements")
	}
	if !Ends([]api.Stmt{again(truth(1), many[:99000]...)}) || Ends([]api.Stmt{again(truth(1), append(many[:99000:99000], api.Stmt{Op: api.StBreak})...)}) {
		t.Error("of a loop with many statements")
	}
	deep, not := []api.Stmt{back(number(1))}, []api.Stmt{printed(number(1))}
	for range 33000 {
		deep = []api.Stmt{{Op: api.StIf, E: truth(1), Body: deep, Else: []api.Stmt{back(number(1))}}}
		not = []api.Stmt{{Op: api.StIf, E: truth(1), Body: []api.Stmt{back(number(1))}, Else: not}}
	}
	if !Ends(deep) || Ends(not) {
		t.Error("of many in one another")
	}
	m := newMaker(3, 0)
	for range 3000 {
		m.result, m.blocks = api.Int, []map[string]api.Type{{}}
		l := append(m.stmts(3), m.end())
		if Ends(l) != plainEnds(l) {
			t.Fatalf("ends %v: %v", !plainEnds(l), l)
		}
	}
}

// Right files, as they are made, and with one name or number in them another one, against a plain checker.
func TestP1402LikePlain(t *testing.T) {
	count := map[api.Errno]int{}
	for seed := range int64(8000) {
		m := newMaker(seed, int(seed%3)*5)
		f, all := m.file()
		if m.Intn(12) == 0 {
			all = all[1:]
		}
		if len(f.Funcs) > 0 && m.Intn(2) == 0 {
			m.spoil(&f.Funcs[m.Intn(len(f.Funcs))])
		}
		want := plainFile(f, all)
		if no := File(f, all); no != want {
			t.Fatalf("error %d, want %d: %v", no, want, f)
		}
		count[want]++
	}
	if count[api.OK] < 1000 || count[api.ErrType] < 1000 || count[api.ErrMissing] < 100 || count[api.ErrArg] < 100 {
		t.Error("too few of one kind:", count)
	}
}

// spoil changes one thing of a function, in place.
func (m *maker) spoil(f *api.Func) {
	if len(f.Body) == 0 || m.Intn(8) == 0 {
		f.Result = api.Type(m.Intn(4))
		return
	}
	s := &f.Body[m.Intn(len(f.Body))]
	for len(s.Body) > 0 && m.Intn(3) > 0 {
		s = &s.Body[m.Intn(len(s.Body))]
	}
	all := places(&s.E)
	switch e := all[m.Intn(len(all))]; m.Intn(8) {
	case 0:
		s.S = m.variable()
	case 1:
		s.Op = 1 + m.Intn(api.StNext)
	case 2:
		s.Body = append(s.Body, api.Stmt{Op: api.StBreak})
	case 3:
		*e = name(m.variable())
	case 4:
		*e = truth(m.Int63n(2))
	case 5:
		e.S = m.pick("F", "G", "h", "a")
	case 6:
		e.Op = 1 + m.Intn(api.ExOr)
	case 7:
		*e = api.Expr{}
	}
}

func TestP1403Program(t *testing.T) {
	const main = "package main\nfunc main() {}"
	const q = "package q\nfunc F(a int) int { return a }\nfunc low() {}\nfunc Main() {}"
	wantProgram(t, api.OK, main)
	wantProgram(t, api.OK, main, q)
	wantProgram(t, api.OK, q, main)
	wantProgram(t, api.OK, "package main\nimport \"q\"\nfunc main() { print(q.F(1)) }", q)
	wantProgram(t, api.OK, q, "package main\nimport \"q\"\nfunc main() { print(q.F(1)); q.Main() }")
	// Others see just what is Upper.
	wantProgram(t, api.ErrType, "package main\nimport \"q\"\nfunc main() { q.low() }", q)
	wantProgram(t, api.ErrType, "package main\nimport \"q\"\nfunc main() { q.F(true) }", q)
	wantProgram(t, api.ErrType, "package main\nfunc main() { q.F(1) }", q)
	wantProgram(t, api.ErrMissing, "package main\nimport \"q\"\nfunc main() {}")
	wantProgram(t, api.ErrMissing, "package main\nimport \"q\"\nfunc main() {}", "package Q\nfunc F() {}")
	// They may import each other, and themselves: in which order they are built is not asked.
	wantProgram(t, api.OK, "package main\nimport \"q\"\nimport \"main\"\nfunc main() { q.A() }\nfunc F() { main.F() }", "package q\nimport \"main\"\nfunc A() { main.F() }")
	wantProgram(t, api.OK, main, "package if;", "package x\nimport \"if\"")
}

func TestP1403Main(t *testing.T) {
	wantProgram(t, api.ErrType)
	wantProgram(t, api.ErrType, "package p\nfunc main() {}")
	wantProgram(t, api.ErrType, "package Main\nfunc main() {}")
	wantProgram(t, api.ErrType, "package main")
	wantProgram(t, api.ErrType, "package main\nfunc Main() {}")
	wantProgram(t, api.ErrType, "package main\nfunc main(a int) {}")
	wantProgram(t, api.ErrType, "package main\nfunc main() int { return 1 }")
	wantProgram(t, api.ErrType, "package main\nfunc main(a bool) bool { return a }")
	wantProgram(t, api.ErrType, "package main\nfunc f() {}", "package p\nfunc main() {}")
	wantProgram(t, api.OK, "package main\nfunc f(a int) {}\nfunc main() { f(1) }", "package p\nfunc main(a int) int { return a }")
	wantProgram(t, api.ErrType, "package main\nfunc main() {}\nfunc main() {}")
}

func TestP1403TheFirstError(t *testing.T) {
	const main, missing, untyped = "package main\nfunc main() {}", "package m\nimport \"zz\"", "package u\nfunc f() { x = 1 }"
	wantProgram(t, api.ErrMissing, main, missing, untyped)
	wantProgram(t, api.ErrType, main, untyped, missing)
	wantProgram(t, api.ErrMissing, missing, untyped)
	wantProgram(t, api.ErrType, untyped, missing)
	// Without a main there is ErrType, but behind all that the files have.
	wantProgram(t, api.ErrMissing, missing)
	wantProgram(t, api.ErrMissing, "package p", missing)
	// One that is not right, and two of one name, are told ahead of all.
	right := []api.File{mustParse(t, missing), mustParse(t, untyped), mustParse(t, main)}
	for i, f := range []api.File{{}, {Name: "p", Imports: []string{""}}, inBody(api.Stmt{}), right[0], right[1], right[2], {Name: "m"}, {Name: "main", Funcs: []api.Func{{Name: "f"}}}} {
		for at := range 4 {
			if no := Program(slices.Insert(slices.Clone(right), at, f)); no != api.ErrArg {
				t.Errorf("%d at %d: error %d", i, at, no)
			}
		}
	}
}

// Files that import each other at random: all of them are held, one behind the other, against a plain checker.
func TestP1403LikeFile(t *testing.T) {
	count := map[api.Errno]int{}
	for seed := range int64(3000) {
		m := newMaker(seed, int(seed%3)*3)
		l, want := m.program()
		if no := Program(l); no != want {
			t.Fatalf("error %d, want %d: %v", no, want, l)
		}
		count[want]++
	}
	if count[api.OK] < 300 || count[api.ErrType] < 300 || count[api.ErrMissing] < 100 || count[api.ErrArg] < 100 {
		t.Error("too few of one kind:", count)
	}
}

func (m *maker) program() ([]api.File, api.Errno) {
	var l []api.File
	for _, s := range []string{"main", "q", "p", "r", "s"} {
		if s == "main" && m.Intn(8) > 0 || m.Intn(20) > 0 {
			l = append(l, m.fileCalled(s))
		}
	}
	if m.Intn(12) == 0 {
		l = append(l, m.fileCalled(m.pick("q", "if", "1")))
	}
	m.Shuffle(len(l), func(i, j int) { l[i], l[j] = l[j], l[i] })
	seen := map[string]bool{}
	var all []api.Import
	for _, f := range l {
		if !tree.Right(f) || seen[f.Name] {
			return l, api.ErrArg
		}
		seen[f.Name] = true
		all = append(all, api.Import{Path: f.Name, Sigs: types.Exports(f)})
	}
	for _, f := range l {
		if no := plainFile(f, all); no != api.OK {
			return l, no
		}
	}
	for _, f := range l {
		for _, g := range f.Funcs {
			if f.Name == "main" && g.Name == "main" && len(g.Params) == 0 && g.Result == api.NoType {
				return l, api.OK
			}
		}
	}
	return l, api.ErrType
}

// fileCalled tells a file of a name, that calls others of which each has, mostly, F of an int, and main, if it is called so.
func (m *maker) fileCalled(s string) api.File {
	f, _ := m.file()
	f.Name = s
	m.own, m.others = nil, nil
	f.Funcs = []api.Func{m.function(sig("F", api.Int, api.Int)), m.function(sig("g", api.NoType))}
	m.own = types.All(f)
	for _, p := range f.Imports {
		m.others = append(m.others, api.Import{Path: p, Sigs: m.own[:1]})
	}
	f.Funcs = append(f.Funcs, m.function(sig(m.pick("H", "h"), m.value(), api.Bool)), m.function(sig("main", api.Type(m.Intn(50)/48))))
	return f
}

// renamed tells texts by other ones, all unlike, that are as Upper, or not; main is left.
type renamed map[string]string

func (r renamed) of(s string) string {
	if s == "" || s == "main" {
		return s
	}
	if _, ok := r[s]; !ok {
		n := strconv.Itoa(len(r)*7919 + 13)
		if s[0] >= 'A' && s[0] <= 'Z' {
			n = "Z" + n
		} else {
			n = "_" + n
		}
		r[s] = n
	}
	return r[s]
}

func (r renamed) expr(e api.Expr) api.Expr {
	e.S, e.Q = r.of(e.S), r.of(e.Q)
	e.X = mapped(e.X, r.expr)
	return e
}

func (r renamed) stmt(s api.Stmt) api.Stmt {
	s.S, s.E, s.Body, s.Else = r.of(s.S), r.expr(s.E), mapped(s.Body, r.stmt), mapped(s.Else, r.stmt)
	return s
}

func (r renamed) file(f api.File) api.File {
	f.Name, f.Imports = r.of(f.Name), mapped(f.Imports, r.of)
	f.Funcs = mapped(f.Funcs, func(g api.Func) api.Func {
		g.Name, g.Body = r.of(g.Name), mapped(g.Body, r.stmt)
		g.Params = mapped(g.Params, func(p api.Param) api.Param { return api.Param{Name: r.of(p.Name), T: p.T} })
		return g
	})
	return f
}

func (r renamed) imported(i api.Import) api.Import {
	return api.Import{Path: r.of(i.Path), Sigs: mapped(i.Sigs, func(s api.Sig) api.Sig { return sig(r.of(s.Name), s.Result, s.Params...) })}
}

func mapped[T any](l []T, anew func(T) T) []T {
	var all []T
	for _, x := range l {
		all = append(all, anew(x))
	}
	return all
}

func TestP1404Files(t *testing.T) {
	count := map[api.Errno]int{}
	for seed := range int64(3000) {
		m := newMaker(seed, int(seed%3)*8)
		f, all := m.file()
		r := renamed{}
		was, is := File(f, all), File(r.file(f), mapped(all, r.imported))
		if was != is {
			t.Fatalf("error %d, by other names %d: %v", was, is, f)
		}
		count[is]++
		// A name that is called as another one is not the same everywhere.
		for _, s := range []string{"a", "F", "q"} {
			r[s] = "b"
		}
		if no := File(r.file(f), mapped(all, r.imported)); no != plainFile(r.file(f), mapped(all, r.imported)) {
			t.Fatalf("error %d: %v", no, r.file(f))
		}
	}
	if count[api.OK] < 500 || count[api.ErrType] < 500 {
		t.Error("too few of one kind:", count)
	}
}

func TestP1404Programs(t *testing.T) {
	for seed := range int64(1000) {
		m := newMaker(seed, int(seed%3)*3)
		l, _ := m.program()
		if slices.ContainsFunc(l, func(f api.File) bool { return f.Name == "1" }) {
			continue
		}
		if was, is := Program(l), Program(mapped(l, renamed{}.file)); was != is {
			t.Fatalf("error %d, by other names %d: %v", was, is, l)
		}
	}
}

// What a name stands for does not hang on what else is called so: variables, functions and packages are apart.
func TestP1404Alike(t *testing.T) {
	const text = "package n\nimport \"n\"\nfunc n(n int) int { for { n := n + n(n) + n.n(n); return n } }"
	all := []api.Import{{Path: "n", Sigs: []api.Sig{sig("n", api.Int, api.Int)}}}
	for _, s := range []string{"n", "k", "main", "_", "X", "abcdefghijklmnop"} {
		f := mustParse(t, strings.ReplaceAll(strings.NewReplacer("return n", "return ~", "func n", "func ~", "n int", "~ int").Replace(text), "~", "n"))
		r := renamed{"n": s}
		if no := File(r.file(f), mapped(all, r.imported)); no != api.OK {
			t.Errorf("%s: error %d", s, no)
		}
	}
}
