package print

import (
	"fmt"
	"go/ast"
	"go/format"
	"go/parser"
	"math"
	"reflect"
	"slices"
	"strings"
	"sync"
	"testing"
	"unsafe"

	"treadmill/api"
	"treadmill/lex"
	"treadmill/parse"
	"treadmill/tree"
)

// opSigns are those of expressions with two parts, by what they are of.
var opSigns = map[int]string{
	api.ExMul: "*", api.ExDiv: "/", api.ExRem: "%", api.ExAdd: "+", api.ExSub: "-",
	api.ExEq: "==", api.ExNe: "!=", api.ExLt: "<", api.ExLe: "<=", api.ExGt: ">", api.ExGe: ">=",
	api.ExAnd: "&&", api.ExOr: "||",
}

// hold holds what is told of a tree against a text; of one that is not right, nothing is.
func hold[T any](t *testing.T, tell func(T) (string, bool), x T, want string, right bool) {
	t.Helper()
	// The tree itself, which may have no end, is not shown.
	if s, ok := tell(x); ok != right || s != want {
		t.Errorf("%.2000q %v, want %.2000q %v", s, ok, want, right)
	}
}

func mustTellExpr(t *testing.T, e api.Expr, want string) { t.Helper(); hold(t, Expr, e, want, true) }
func mustRefuseExpr(t *testing.T, e api.Expr)            { t.Helper(); hold(t, Expr, e, "", false) }
func mustTell(t *testing.T, f api.File, want string)     { t.Helper(); hold(t, File, f, want, true) }
func mustRefuse(t *testing.T, f api.File)                { t.Helper(); hold(t, File, f, "", false) }

// mustTellBody holds what is told of a function's statements, as lines.
func mustTellBody(t *testing.T, l []api.Stmt, lines ...string) {
	t.Helper()
	mustTell(t, inBody(l...), "package p;\nfunc f() {\n"+strings.Join(append(lines, "}"), "\n")+"\n")
}

func TestP1102Example(t *testing.T) {
	mustTellExpr(t, made(api.ExNeg, made(api.ExAdd, name("a"), name("b"))), "-(a + b)")
}

func TestP1102Leaves(t *testing.T) {
	for _, n := range []int64{0, 1, 9, 10, 1 << 32, math.MaxInt64 - 1, math.MaxInt64} {
		mustTellExpr(t, number(n), fmt.Sprint(n))
	}
	mustTellExpr(t, truth(1), "true")
	mustTellExpr(t, truth(0), "false")
	for _, s := range []string{"a", "_", "X9", "abcdefghijklmnop"} {
		mustTellExpr(t, name(s), s)
	}
}

func TestP1102Calls(t *testing.T) {
	x, sum := name("x"), made(api.ExAdd, name("a"), number(1))
	mustTellExpr(t, asked("", "f"), "f()")
	mustTellExpr(t, asked("q", "G"), "q.G()")
	mustTellExpr(t, asked("", "f", x), "f(x)")
	mustTellExpr(t, asked("q", "G", x, number(2), truth(0)), "q.G(x, 2, false)")
	mustTellExpr(t, asked("", "f", asked("q", "G", x, x), asked("", "f")), "f(q.G(x, x), f())")
	// Commas part arguments: they are in no brackets, and a call of two is not an expression of two parts.
	mustTellExpr(t, asked("", "f", sum), "f(a + 1)")
	mustTellExpr(t, asked("q", "G", sum, made(api.ExNeg, sum), made(api.ExAnd, x, sum)), "q.G(a + 1, -(a + 1), x && (a + 1))")
	mustTellExpr(t, made(api.ExNeg, asked("", "f", x, sum)), "-f(x, a + 1)")
	mustTellExpr(t, made(api.ExMul, asked("", "f", x, x), asked("q", "G", x, x)), "f(x, x) * q.G(x, x)")
	many := slices.Repeat([]api.Expr{x}, 256)
	mustTellExpr(t, asked("", "f", many[:255]...), "f(x"+strings.Repeat(", x", 254)+")")
	mustRefuseExpr(t, asked("", "f", many...))
}

func TestP1102Signs(t *testing.T) {
	a, b, c := name("a"), name("b"), name("c")
	for op, s := range opSigns {
		both := made(op, a, b)
		mustTellExpr(t, both, "a "+s+" b")
		mustTellExpr(t, made(api.ExNeg, both), "-(a "+s+" b)")
		mustTellExpr(t, made(api.ExNot, both), "!(a "+s+" b)")
		mustTellExpr(t, made(op, made(api.ExNeg, a), made(api.ExNot, b)), "-a "+s+" !b")
		mustTellExpr(t, made(op, number(7), asked("", "f", a)), "7 "+s+" f(a)")
		for other, z := range opSigns {
			mustTellExpr(t, made(other, both, c), "(a "+s+" b) "+z+" c")
			mustTellExpr(t, made(other, c, both), "c "+z+" (a "+s+" b)")
			mustTellExpr(t, made(other, both, both), "(a "+s+" b) "+z+" (a "+s+" b)")
		}
	}
	mustTellExpr(t, made(api.ExNeg, number(1)), "-1")
	mustTellExpr(t, made(api.ExNot, truth(1)), "!true")
	mustTellExpr(t, made(api.ExNeg, made(api.ExNeg, a)), "--a")
	mustTellExpr(t, made(api.ExNot, made(api.ExNot, a)), "!!a")
	mustTellExpr(t, made(api.ExNeg, made(api.ExNot, made(api.ExNeg, a))), "-!-a")
	mustTellExpr(t, made(api.ExSub, a, made(api.ExNeg, made(api.ExSub, b, c))), "a - -(b - c)")
}

func TestP1102Wrong(t *testing.T) {
	x := name("x")
	wrong := []api.Expr{
		{}, {S: "x"}, {X: []api.Expr{x}}, number(-1), number(math.MinInt64), truth(-1), truth(2), truth(math.MaxInt64),
		name(""), name("if"), name("true"), name("1x"), name("a.b"), name("a b"), name("é"), name("abcdefghijklmnopq"),
		asked("", ""), asked("q", ""), asked("", "print"), asked("q", "int"), asked("if", "f"), asked("1", "f"), asked("abcdefghijklmnopq", "f"), asked("a.b", "f"),
		{Op: api.ExNum, S: "x"}, {Op: api.ExNum, Q: "x"}, {Op: api.ExNum, X: []api.Expr{x}}, {Op: api.ExBool, S: "x"}, {Op: api.ExBool, X: []api.Expr{x}},
		{Op: api.ExName, S: "x", N: 1}, {Op: api.ExName, S: "x", Q: "q"}, {Op: api.ExName, S: "x", X: []api.Expr{x}}, {Op: api.ExCall, S: "f", N: 1},
	}
	for _, op := range []int{math.MinInt, -1, 0, api.ExOr + 1, 255, 256 + api.ExNum, 1<<32 + api.ExName, math.MaxInt} {
		for n := range 4 {
			wrong = append(wrong, made(op, slices.Repeat([]api.Expr{x}, n)...), api.Expr{Op: op, S: "x", X: slices.Repeat([]api.Expr{x}, n)})
		}
	}
	for op := api.ExNeg; op <= api.ExOr; op++ {
		for n := range 5 {
			if n != tree.Parts(op) {
				wrong = append(wrong, made(op, slices.Repeat([]api.Expr{x}, n)...))
			}
		}
		right := slices.Repeat([]api.Expr{x}, tree.Parts(op))
		wrong = append(wrong, api.Expr{Op: op, N: 1, X: right}, api.Expr{Op: op, S: "x", X: right}, api.Expr{Op: op, Q: "q", X: right})
	}
	for _, e := range wrong {
		mustRefuseExpr(t, e)
		for _, whole := range []api.Expr{made(api.ExNot, e), made(api.ExAdd, e, x), made(api.ExOr, x, e), asked("", "f", x, e, x), made(api.ExNeg, asked("q", "G", x, made(api.ExLt, x, e)))} {
			mustRefuseExpr(t, whole)
		}
	}
}

// wantExpr tells an expression's text, each part of it by itself.
func wantExpr(e api.Expr) string {
	var parts, apart []any
	for _, x := range e.X {
		s := wantExpr(x)
		parts = append(parts, s)
		if _, ok := opSigns[x.Op]; ok {
			s = "(" + s + ")"
		}
		apart = append(apart, s)
	}
	switch e.Op {
	case api.ExNum:
		return fmt.Sprint(e.N)
	case api.ExBool:
		return fmt.Sprint(e.N == 1)
	case api.ExName:
		return e.S
	case api.ExCall:
		list := strings.TrimSuffix(fmt.Sprintf(strings.Repeat("%s, ", len(parts)), parts...), ", ")
		return strings.TrimPrefix(e.Q+"."+e.S+"("+list+")", ".")
	case api.ExNeg:
		return fmt.Sprintf("-%s", apart...)
	case api.ExNot:
		return fmt.Sprintf("!%s", apart...)
	}
	return fmt.Sprintf("%s "+strings.ReplaceAll(opSigns[e.Op], "%", "%%")+" %s", apart...)
}

func TestP1102Many(t *testing.T) {
	m := newMaker(1102)
	refused := 0
	for range 20000 {
		e := m.expr(5)
		mustTellExpr(t, e, wantExpr(e))
		m.spoil(&e)
		if tree.Right(inBody(printed(e))) {
			mustTellExpr(t, e, wantExpr(e))
			continue
		}
		mustRefuseExpr(t, e)
		refused++
	}
	if refused < 5000 {
		t.Error(refused)
	}
}

// Trees are told of as far as they have at most 100000 nodes: an expression's are its own, those of no file around it.
func TestP1102Nodes(t *testing.T) {
	for _, n := range []int{1, 2, 300, 99997, 99998, 99999, 100000} {
		mustTellExpr(t, chain(n), strings.Repeat("-", n-1)+"x")
	}
	bare := slices.Repeat([]api.Expr{name("x")}, 255)
	wide := slices.Repeat([]api.Expr{asked("", "f", bare...)}, 255)
	whole := made(api.ExAdd, asked("", "g", wide...), chain(100000-2-255*256))
	mustTellExpr(t, whole, wantExpr(whole))
	mustRefuseExpr(t, made(api.ExNot, whole))
	for _, n := range []int{100001, 100002, 300000} {
		mustRefuseExpr(t, chain(n))
	}
	crowd := name("x")
	for range 60 {
		crowd = made(api.ExAdd, crowd, crowd)
	}
	mustRefuseExpr(t, crowd)
	for op := -1; op <= api.ExOr+1; op++ {
		for n := 1; n < 4; n++ {
			mustRefuseExpr(t, endless(op, n))
			mustRefuse(t, inBody(printed(endless(op, n))))
		}
	}
}

func TestP1103Example(t *testing.T) {
	x, y := name("x"), name("y")
	f := api.File{Name: "main", Imports: []string{"q", "if", "q"}, Funcs: []api.Func{
		{Name: "F", Params: []api.Param{{Name: "x", T: api.Int}, {Name: "y", T: api.Bool}}, Result: api.Int, Body: []api.Stmt{
			{Op: api.StDef, S: "z", E: asked("q", "G", x, made(api.ExNot, y))},
			{Op: api.StIf, E: made(api.ExLt, x, number(1)), Body: []api.Stmt{{Op: api.StReturn, E: number(0)}}, Else: []api.Stmt{
				{Op: api.StIf, E: y, Body: []api.Stmt{{Op: api.StSet, S: "z", E: made(api.ExNeg, x)}}, Else: []api.Stmt{{Op: api.StFor, E: truth(1)}}},
			}},
			{Op: api.StFor, E: y, Body: []api.Stmt{{Op: api.StBreak}, {Op: api.StNext}}},
			{Op: api.StReturn, E: made(api.ExSub, made(api.ExSub, x, number(1)), number(2))},
		}},
		{Name: "b", Params: []api.Param{{Name: "x", T: api.Bool}}, Result: api.Bool},
		{Name: "main", Body: []api.Stmt{{Op: api.StCall, E: asked("", "F", number(1), truth(1))}, printed(made(api.ExAdd, x, y)), {Op: api.StReturn}}},
	}}
	mustTell(t, f, `package main;
import "q"
import "if"
import "q"
func F(x int, y bool) int {
	z := q.G(x, !y)
	if x < 1 {
		return 0
	} else {
		if y {
			z = -x
		} else {
			for true {
			}
		}
	}
	for y {
		break
		continue
	}
	return (x - 1) - 2
}
func b(x bool) bool {
}
func main() {
	F(1, true)
	print(x + y)
	return
}
`)
}

func TestP1103Heads(t *testing.T) {
	mustTell(t, api.File{Name: "p"}, "package p;\n")
	for _, s := range []string{"if", "package", "int", "true", "return", "abcdefghijklmnop"} {
		mustTell(t, api.File{Name: s}, "package "+s+";\n")
		mustTell(t, api.File{Name: "p", Imports: []string{s}}, "package p;\nimport \""+s+"\"\n")
	}
	mustTell(t, api.File{Name: "p", Imports: slices.Repeat([]string{"q"}, 8)}, "package p;\n"+strings.Repeat("import \"q\"\n", 8))
	mustTell(t, api.File{Name: "p", Funcs: slices.Repeat([]api.Func{{Name: "f"}}, 32)}, "package p;\n"+strings.Repeat("func f() {\n}\n", 32))
	one, other := api.Param{Name: "a", T: api.Int}, api.Param{Name: "bc", T: api.Bool}
	for n, list := range []string{"", "a int", "a int, bc bool", "a int, bc bool, a int", "a int, bc bool, a int, bc bool"} {
		for result, s := range []string{"", " int", " bool"} {
			f := api.Func{Name: "F", Params: []api.Param{one, other, one, other}[:n], Result: api.Type(result)}
			mustTell(t, api.File{Name: "p", Imports: []string{"q"}, Funcs: []api.Func{f, f}}, "package p;\nimport \"q\"\n"+strings.Repeat("func F("+list+")"+s+" {\n}\n", 2))
		}
	}
}

func TestP1103Statements(t *testing.T) {
	x, sum := name("x"), made(api.ExAdd, name("a"), number(1))
	for _, c := range []struct {
		s     api.Stmt
		lines string
	}{
		{api.Stmt{Op: api.StDef, S: "x", E: number(1)}, "\tx := 1"},
		{api.Stmt{Op: api.StDef, S: "x", E: sum}, "\tx := a + 1"},
		{api.Stmt{Op: api.StSet, S: "y", E: sum}, "\ty = a + 1"},
		{api.Stmt{Op: api.StIf, E: x}, "\tif x {\n\t}"},
		{api.Stmt{Op: api.StIf, E: sum, Body: []api.Stmt{{Op: api.StBreak}}}, "\tif a + 1 {\n\t\tbreak\n\t}"},
		{api.Stmt{Op: api.StIf, E: x, Else: []api.Stmt{{Op: api.StBreak}, {Op: api.StNext}}}, "\tif x {\n\t} else {\n\t\tbreak\n\t\tcontinue\n\t}"},
		{api.Stmt{Op: api.StIf, E: x, Body: []api.Stmt{}, Else: []api.Stmt{}}, "\tif x {\n\t}"},
		{api.Stmt{Op: api.StIf, E: x, Else: []api.Stmt{{Op: api.StIf, E: x}}}, "\tif x {\n\t} else {\n\t\tif x {\n\t\t}\n\t}"},
		{api.Stmt{Op: api.StFor, E: truth(1)}, "\tfor true {\n\t}"},
		{api.Stmt{Op: api.StFor, E: truth(0), Body: []api.Stmt{{Op: api.StNext}}}, "\tfor false {\n\t\tcontinue\n\t}"},
		{api.Stmt{Op: api.StFor, E: sum}, "\tfor a + 1 {\n\t}"},
		{api.Stmt{Op: api.StReturn}, "\treturn"},
		{api.Stmt{Op: api.StReturn, E: api.Expr{X: []api.Expr{}}}, "\treturn"},
		{api.Stmt{Op: api.StReturn, E: number(0)}, "\treturn 0"},
		{api.Stmt{Op: api.StReturn, E: sum}, "\treturn a + 1"},
		{printed(x), "\tprint(x)"},
		{printed(sum), "\tprint(a + 1)"},
		{printed(asked("", "f", sum, x)), "\tprint(f(a + 1, x))"},
		{api.Stmt{Op: api.StCall, E: asked("", "f")}, "\tf()"},
		{api.Stmt{Op: api.StCall, E: asked("q", "G", sum, x)}, "\tq.G(a + 1, x)"},
		{api.Stmt{Op: api.StBreak}, "\tbreak"},
		{api.Stmt{Op: api.StNext}, "\tcontinue"},
	} {
		within := strings.ReplaceAll("\t"+c.lines, "\n", "\n\t")
		mustTellBody(t, []api.Stmt{c.s}, c.lines)
		mustTellBody(t, []api.Stmt{c.s, c.s, c.s}, c.lines, c.lines, c.lines)
		mustTellBody(t, []api.Stmt{{Op: api.StFor, E: x, Body: []api.Stmt{c.s, c.s}}, c.s}, "\tfor x {", within, within, "\t}", c.lines)
		mustTellBody(t, []api.Stmt{{Op: api.StIf, E: x, Body: []api.Stmt{c.s}, Else: []api.Stmt{c.s}}}, "\tif x {", within, "\t} else {", within, "\t}")
	}
}

func TestP1103Deep(t *testing.T) {
	for op, key := range map[int]string{api.StIf: "if", api.StFor: "for"} {
		for _, n := range []int{1, 2, 25, 1000} {
			var lines []string
			for deep := 1; deep <= n; deep++ {
				lines = append(lines, strings.Repeat("\t", deep)+key+" true {")
			}
			for deep := n; deep >= 1; deep-- {
				lines = append(lines, strings.Repeat("\t", deep)+"}")
			}
			mustTellBody(t, []api.Stmt{tower(op, n)}, lines...)
		}
	}
}

func TestP1103Wrong(t *testing.T) {
	x := name("x")
	f := api.Func{Name: "f"}
	for _, s := range []string{"", "1", "a.b", " p", "p;", "é", "abcdefghijklmnopq"} {
		mustRefuse(t, api.File{Name: s})
		mustRefuse(t, api.File{Name: "p", Imports: []string{"q", s}})
		mustRefuse(t, api.File{Name: "p", Funcs: []api.Func{f, {Name: s}}})
		mustRefuse(t, api.File{Name: "p", Funcs: []api.Func{{Name: "f", Params: []api.Param{{Name: s, T: api.Int}}}}})
		mustRefuse(t, inBody(api.Stmt{Op: api.StDef, S: s, E: x}))
		mustRefuse(t, inBody(api.Stmt{Op: api.StSet, S: s, E: x}))
		mustRefuse(t, inBody(printed(x), printed(name(s))))
	}
	mustRefuse(t, api.File{})
	mustRefuse(t, api.File{Name: "p", Imports: slices.Repeat([]string{"q"}, 9)})
	mustRefuse(t, api.File{Name: "p", Funcs: slices.Repeat([]api.Func{f}, 33)})
	mustRefuse(t, api.File{Name: "p", Funcs: []api.Func{{Name: "f", Params: slices.Repeat([]api.Param{{Name: "x", T: api.Int}}, 5)}}})
	for kind := range 256 {
		if kind > 2 {
			mustRefuse(t, api.File{Name: "p", Funcs: []api.Func{{Name: "f", Result: api.Type(kind)}}})
		}
		if kind < 1 || kind > 2 {
			mustRefuse(t, api.File{Name: "p", Funcs: []api.Func{{Name: "f", Params: []api.Param{{Name: "x", T: api.Type(kind)}}}}})
		}
	}
	for _, s := range []api.Stmt{
		{}, {Op: -1}, {Op: 10}, {Op: math.MaxInt}, {Op: 0, E: x}, {Op: api.StDef, S: "x"}, {Op: api.StSet, S: "x"}, {Op: api.StIf}, {Op: api.StFor}, {Op: api.StPrint}, {Op: api.StCall}, {Op: api.StCall, E: x},
		{Op: api.StReturn, E: number(-1)}, {Op: api.StReturn, E: api.Expr{N: 1}}, {Op: api.StReturn, S: "x"}, {Op: api.StBreak, E: x}, {Op: api.StNext, E: x}, {Op: api.StBreak, S: "x"}, {Op: api.StNext, Body: []api.Stmt{{Op: api.StNext}}},
		{Op: api.StFor, E: x, Else: []api.Stmt{{Op: api.StBreak}}}, {Op: api.StFor, E: x, S: "x"}, {Op: api.StPrint, E: x, Body: []api.Stmt{{Op: api.StBreak}}}, {Op: api.StPrint, E: x, S: "x"}, {Op: api.StDef, S: "x", E: x, Else: []api.Stmt{{Op: api.StBreak}}},
		endlessStmt(api.StIf), endlessStmt(api.StFor), tower(api.StIf, 50001),
	} {
		mustRefuse(t, inBody(s))
		mustRefuse(t, inBody(printed(x), s))
		mustRefuse(t, inBody(api.Stmt{Op: api.StIf, E: x, Else: []api.Stmt{s}}))
	}
}

// asGo parts signs that Go takes as one.
func asGo(s string) string {
	return strings.ReplaceAll(strings.ReplaceAll(s, "--", "- -"), "--", "- -")
}

// Where lines end and how far in they stand is as Go's own formatter has it, but for lines that it leaves empty, and blanks within lines.
func TestP1103Lines(t *testing.T) {
	m := newMaker(1103)
	plain := func(s string) string {
		var lines []string
		for line := range strings.Lines(s) {
			if line != "\n" {
				lines = append(lines, strings.ReplaceAll(line, " ", ""))
			}
		}
		return strings.Replace(strings.Join(lines, ""), ";", "", 1)
	}
	for range 1500 {
		s, ok := File(m.file(4))
		formatted, err := format.Source([]byte(asGo(s)))
		if !ok || err != nil || plain(s) != plain(string(formatted)) {
			t.Fatalf("%s\nis not\n%s%v", s, formatted, err)
		}
	}
}

func TestP1103Types(t *testing.T) {
	for n := range 256 {
		want := map[api.Type]string{api.Int: "int", api.Bool: "bool"}[api.Type(n)]
		if s := Type(api.Type(n)); s != want {
			t.Errorf("%d: %q", n, s)
		}
	}
}

// thereAndBack holds what is told of a file against what parse tells of that, and tells its error.
func thereAndBack(t *testing.T, f api.File) api.Errno {
	t.Helper()
	s, ok := File(f)
	g, no := parse.File(s)
	words, few := lex.Words(s)
	fits := few == api.OK && parse.Nest(words) <= api.MaxNest
	if !ok || fits != (no == api.OK) || !fits && no != api.ErrLarge {
		t.Fatalf("%v: %q %v: %v", f, s, ok, no)
	}
	if fits && !tree.Same(f, g) {
		t.Fatalf("%q: %v, not %v", s, g, f)
	}
	if again, ok := File(g); fits && (!ok || again != s) {
		t.Fatalf("%q, and again %q", s, again)
	}
	return no
}

func TestP1104Files(t *testing.T) {
	m := newMaker(1104)
	count := map[api.Errno]int{}
	for range 3000 {
		count[thereAndBack(t, m.file(4))]++
	}
	for range 300 {
		count[thereAndBack(t, m.file(api.MaxFuncs))]++
	}
	if count[api.OK] < 3000 || count[api.ErrLarge] < 100 {
		t.Error(count)
	}
}

func TestP1104Exprs(t *testing.T) {
	m := newMaker(4)
	read := 0
	for range 10000 {
		e := m.expr(5)
		s, _ := Expr(e)
		g, no := parse.Expr(s)
		if no == api.ErrLarge {
			continue
		}
		read++
		if again, ok := Expr(g); no != api.OK || !tree.SameExpr(e, g) || !ok || again != s {
			t.Fatalf("%q %v, and again %q", s, no, again)
		}
	}
	if read < 9000 {
		t.Error(read)
	}
}

// All expressions of at most three signs, of each kind, with each of their shapes.
func TestP1104Shapes(t *testing.T) {
	by := [][]api.Expr{{name("a"), number(1), asked("q", "G", truth(0), name("b"))}}
	ops := []int{api.ExNeg, api.ExNot, api.ExMul, api.ExSub, api.ExNe, api.ExLt, api.ExAnd, api.ExOr}
	for n := 1; n <= 3; n++ {
		var l []api.Expr
		for i, op := range ops {
			if tree.Parts(op) == 1 {
				for _, x := range by[n-1] {
					l = append(l, made(op, x))
				}
				continue
			}
			for left := range n {
				for k, x := range by[left] {
					y := by[n-1-left]
					l = append(l, made(op, x, y[(i+k)%len(y)]))
				}
			}
		}
		by = append(by, l)
	}
	for _, e := range slices.Concat(by...) {
		s, _ := Expr(e)
		if g, no := parse.Expr(s); no != api.OK || !tree.SameExpr(e, g) {
			t.Fatalf("%q: %v %v", s, g, no)
		}
		if g, err := parser.ParseExpr(asGo(s)); err != nil || shape(g) != shapeOf(e) {
			t.Fatalf("%q: %v %v", s, g, err)
		}
	}
}

// shape tells what Go's parser makes of an expression, with all that has parts in brackets.
func shape(e ast.Expr) string {
	switch e := e.(type) {
	case *ast.ParenExpr:
		return shape(e.X)
	case *ast.UnaryExpr:
		return "(" + e.Op.String() + shape(e.X) + ")"
	case *ast.BinaryExpr:
		return "(" + shape(e.X) + e.Op.String() + shape(e.Y) + ")"
	case *ast.BasicLit:
		return e.Value
	case *ast.Ident:
		return e.Name
	}
	return "call"
}

func shapeOf(e api.Expr) string {
	switch e.Op {
	case api.ExNum:
		return fmt.Sprint(e.N)
	case api.ExName:
		return e.S
	case api.ExCall:
		return "call"
	case api.ExNeg:
		return "(-" + shapeOf(e.X[0]) + ")"
	case api.ExNot:
		return "(!" + shapeOf(e.X[0]) + ")"
	}
	return "(" + shapeOf(e.X[0]) + opSigns[e.Op] + shapeOf(e.X[1]) + ")"
}

func TestP1104Limits(t *testing.T) {
	if no := thereAndBack(t, inBody(tower(api.StIf, api.MaxNest-1))); no != api.OK {
		t.Error(no)
	}
	if no := thereAndBack(t, inBody(tower(api.StFor, api.MaxNest))); no != api.ErrLarge {
		t.Error(no)
	}
	deep := name("a")
	for n := 2; n <= 30; n++ {
		// One bracket fewer than signs, one that is the function's block, and one of print.
		deep = made(api.ExAdd, deep, number(1))
		if no := thereAndBack(t, inBody(printed(deep))); (no == api.OK) != (n <= api.MaxNest) {
			t.Error(n, no)
		}
	}
	empty, _ := File(inBody())
	line := "\tprint(x)\n"
	for _, room := range []int{0, 1} {
		// Names are as long as it takes to come to 4096 bytes, or one more.
		left := api.MaxText + room - len(empty)
		n := left/len(line) - 1
		l := slices.Repeat([]api.Stmt{printed(name("x"))}, n)
		l = append(l, printed(name(strings.Repeat("x", left-n*len(line)-len(line)+1))))
		s, _ := File(inBody(l...))
		if no := thereAndBack(t, inBody(l...)); len(s) != api.MaxText+room || no != []api.Errno{api.OK, api.ErrLarge}[room] {
			t.Error(len(s), no)
		}
	}
	// A name, a sign ( and a sign ) and a sign ; for each one, and 9 around them.
	for n, want := range map[int]api.Errno{509: api.OK, 510: api.ErrLarge} {
		f := inBody(slices.Repeat([]api.Stmt{{Op: api.StCall, E: asked("", "f")}}, n)...)
		if no := thereAndBack(t, f); no != want {
			t.Error(n, no)
		}
	}
}

// Whatever a text is written like, what is told of its tree is parsed as it was.
func TestP1104Texts(t *testing.T) {
	for text, want := range map[string]string{
		"package p": "package p;\n",
		"package p;import\"q\";func f(x int)bool{return((x))<-1;}":                  "package p;\nimport \"q\"\nfunc f(x int) bool {\n\treturn x < -1\n}\n",
		"package p\nfunc f() { for { } }":                                           "package p;\nfunc f() {\n\tfor true {\n\t}\n}\n",
		"package p\nfunc f() { if x { } else { } }":                                 "package p;\nfunc f() {\n\tif x {\n\t}\n}\n",
		"package p\nfunc f() { if x { } else if y { return } else { f(1,(2+3)) } }": "package p;\nfunc f() {\n\tif x {\n\t} else {\n\t\tif y {\n\t\t\treturn\n\t\t} else {\n\t\t\tf(1, 2 + 3)\n\t\t}\n\t}\n}\n",
		"package p\nfunc f() { x = a || b && c == d + -e * f - g }":                 "package p;\nfunc f() {\n\tx = a || (b && (c == ((d + (-e * f)) - g)))\n}\n",
	} {
		f, no := parse.File(text)
		if no != api.OK {
			t.Fatal(text, no)
		}
		mustTell(t, f, want)
		thereAndBack(t, f)
	}
}

// behind is a text that hangs on bytes: as they are changed, so is it, and whatever shares their memory.
func behind(b []byte) string {
	return unsafe.String(&b[0], len(b))
}

func TestP1101NothingShared(t *testing.T) {
	b := []byte("abc")
	s := behind(b)
	e := name(s)
	f := api.File{Name: s, Imports: []string{s}, Funcs: []api.Func{{Name: s, Params: []api.Param{{Name: s, T: api.Int}}, Body: []api.Stmt{{Op: api.StDef, S: s, E: asked(s, s, e)}}}}}
	one, _ := File(f)
	two, _ := Expr(e)
	three, _ := Expr(e)
	clear(b)
	if want := "package abc;\nimport \"abc\"\nfunc abc(abc int) {\n\tabc := abc.abc(abc)\n}\n"; one != want || two != "abc" {
		t.Errorf("%q %q share with what was handed in", one, two)
	}
	for _, l := range [][2]string{{two, three}, {Type(api.Int), Type(api.Int)}, {Type(api.Bool), Type(api.Bool)}} {
		if unsafe.StringData(l[0]) == unsafe.StringData(l[1]) {
			t.Error(l, "share")
		}
	}
}

func TestP1101NothingChanged(t *testing.T) {
	m, as := newMaker(1), newMaker(1)
	for range 300 {
		f, was := m.file(4), as.file(4)
		File(f)
		e, had := m.expr(4), as.expr(4)
		Expr(e)
		m.spoil(&e)
		as.spoil(&had)
		Expr(e)
		if !reflect.DeepEqual(f, was) || !reflect.DeepEqual(e, had) {
			t.Fatal(f, e)
		}
	}
	// What lies behind a list stays, too.
	room := []api.Expr{number(1), number(2), number(3)}
	Expr(made(api.ExNeg, room[:1]...))
	mustTell(t, inBody(printed(made(api.ExAdd, room[:2]...))), "package p;\nfunc f() {\n\tprint(1 + 2)\n}\n")
	if !reflect.DeepEqual(room, []api.Expr{number(1), number(2), number(3)}) {
		t.Error(room)
	}
}

// Nil lists and empty ones mean the same.
func TestP1101EmptyLists(t *testing.T) {
	mustTellExpr(t, api.Expr{Op: api.ExNum, N: 1, X: []api.Expr{}}, "1")
	mustTellExpr(t, api.Expr{Op: api.ExCall, S: "f", X: []api.Expr{}}, "f()")
	mustTell(t, api.File{Name: "p", Imports: []string{}, Funcs: []api.Func{}}, "package p;\n")
	mustTell(t, api.File{Name: "p", Funcs: []api.Func{{Name: "f", Params: []api.Param{}, Body: []api.Stmt{}}}}, "package p;\nfunc f() {\n}\n")
	mustTellBody(t, []api.Stmt{{Op: api.StBreak, E: api.Expr{X: []api.Expr{}}, Body: []api.Stmt{}, Else: []api.Stmt{}}}, "\tbreak")
}

func TestP1101SameFromAll(t *testing.T) {
	f, e := newMaker(7).file(4), newMaker(8).expr(5)
	text, _ := File(f)
	row, _ := Expr(e)
	var wait sync.WaitGroup
	for range 8 {
		wait.Go(func() {
			for range 200 {
				s, ok := File(f)
				r, fine := Expr(e)
				if !ok || !fine || s != text || r != row || Type(api.Int) != "int" {
					t.Error(s, r)
				}
			}
		})
	}
	wait.Wait()
}
