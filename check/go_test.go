package check

import (
	"fmt"
	"go/ast"
	"go/parser"
	"go/token"
	gotypes "go/types"
	"strings"
	"testing"

	"treadmill/api"
)

// MiniGo is a part of Go, so Go's own checker tells which files are well typed. (Where Go reckons ahead, it refuses more: so each number is told by a function, num.)

var goSigns = map[int]string{
	api.ExMul: "*", api.ExDiv: "/", api.ExRem: "%", api.ExAdd: "+", api.ExSub: "-",
	api.ExEq: "==", api.ExNe: "!=", api.ExLt: "<", api.ExLe: "<=", api.ExGt: ">", api.ExGe: ">=",
	api.ExAnd: "&&", api.ExOr: "||",
}

func goExpr(e api.Expr) string {
	var l []string
	for _, x := range e.X {
		l = append(l, goExpr(x))
	}
	switch e.Op {
	case 0:
		return ""
	case api.ExNum:
		return fmt.Sprintf("num(%d)", e.N)
	case api.ExBool:
		return fmt.Sprint(e.N == 1)
	case api.ExName:
		return e.S
	case api.ExCall:
		return strings.TrimPrefix(e.Q+"."+e.S, ".") + "(" + strings.Join(l, ", ") + ")"
	case api.ExNeg:
		return "-(" + l[0] + ")"
	case api.ExNot:
		return "!(" + l[0] + ")"
	}
	return "(" + l[0] + ") " + goSigns[e.Op] + " (" + l[1] + ")"
}

func goBlock(l []api.Stmt) string {
	var b strings.Builder
	for _, s := range l {
		b.WriteString(goStmt(s) + "\n")
	}
	return "{\n" + b.String() + "}"
}

func goStmt(s api.Stmt) string {
	e := goExpr(s.E)
	switch s.Op {
	case api.StDef:
		return s.S + " := " + e
	case api.StSet:
		return s.S + " = " + e
	case api.StIf:
		return "if " + e + " " + goBlock(s.Body) + " else " + goBlock(s.Else)
	case api.StFor:
		// Of Go only one without an expression ends.
		return "for " + strings.TrimPrefix(e, "true") + " " + goBlock(s.Body)
	case api.StReturn:
		return "return " + e
	case api.StPrint:
		return "print(" + e + ")"
	case api.StBreak:
		return "break"
	case api.StNext:
		return "continue"
	}
	return e
}

var goTypes = map[api.Type]string{api.Int: "int", api.Bool: "bool"}

func goText(f api.File) string {
	b := "package " + f.Name + "\n"
	for _, s := range f.Imports {
		b += "import \"" + s + "\"\n"
	}
	b += "func num(n int) int { return n }\n"
	for _, g := range f.Funcs {
		var l []string
		for _, p := range g.Params {
			l = append(l, p.Name+" "+goTypes[p.T])
		}
		b += "func " + g.Name + "(" + strings.Join(l, ", ") + ") " + goTypes[g.Result] + " " + goBlock(g.Body) + "\n"
	}
	return b
}

// goImports tells packages of what others may see, as Go asks for them.
type goImports []api.Import

func (l goImports) Import(path string) (*gotypes.Package, error) {
	for _, i := range l {
		if i.Path == path {
			p := gotypes.NewPackage(path, path)
			for _, s := range i.Sigs {
				p.Scope().Insert(gotypes.NewFunc(0, p, s.Name, goSig(s)))
			}
			p.MarkComplete()
			return p, nil
		}
	}
	return nil, fmt.Errorf("no package %s", path)
}

func goSig(s api.Sig) *gotypes.Signature {
	var params, results []*gotypes.Var
	for _, t := range s.Params {
		params = append(params, gotypes.NewParam(0, nil, "", gotypes.Universe.Lookup(goTypes[t]).Type()))
	}
	if s.Result != api.NoType {
		results = append(results, gotypes.NewParam(0, nil, "", gotypes.Universe.Lookup(goTypes[s.Result]).Type()))
	}
	return gotypes.NewSignatureType(nil, nil, nil, gotypes.NewTuple(params...), gotypes.NewTuple(results...), false)
}

// goErrors tells what Go says against a file, but that something is not used.
func goErrors(t *testing.T, f api.File, imports []api.Import) []gotypes.Error {
	t.Helper()
	set := token.NewFileSet()
	a, err := parser.ParseFile(set, "", goText(f), parser.SkipObjectResolution)
	if err != nil {
		t.Fatal(err)
	}
	var l []gotypes.Error
	c := gotypes.Config{Importer: goImports(imports), Error: func(err error) {
		if e := err.(gotypes.Error); !strings.Contains(e.Msg, "and not used") {
			l = append(l, e)
		}
	}}
	c.Check(f.Name, set, []*ast.File{a}, nil)
	return l
}

func TestP1402LikeGo(t *testing.T) {
	count := map[api.Errno]int{}
	for seed := range int64(6000) {
		m := newMaker(seed, int(seed%4)*8)
		f, imports := m.file()
		want := api.OK
		l := goErrors(t, f, imports)
		if len(l) > 0 {
			want = api.ErrType
		}
		if no := File(f, imports); no != want {
			t.Fatalf("error %d, want %d: %v\n%s", no, want, l, goText(f))
		}
		count[want]++
	}
	if count[api.OK] < 1500 || count[api.ErrType] < 1500 {
		t.Error("too few of one kind:", count)
	}
}

// shapes tells all statements that hold at most so many others in one another.
func shapes(deep int) []api.Stmt {
	l := []api.Stmt{{Op: api.StBreak}, back(number(1))}
	if deep == 0 {
		return append(l, printed(number(1)), api.Stmt{Op: api.StNext})
	}
	for _, b := range rows(shapes(deep - 1)) {
		l = append(l, again(truth(1), b...), again(truth(0), b...), api.Stmt{Op: api.StIf, E: truth(1), Body: b})
		for _, end := range [][]api.Stmt{{back(number(1))}, {printed(number(1))}, {{Op: api.StBreak}}} {
			l = append(l, api.Stmt{Op: api.StIf, E: truth(1), Body: b, Else: end}, api.Stmt{Op: api.StIf, E: truth(1), Body: end, Else: b})
		}
	}
	return l
}

// rows tells lists of no, one or two statements; of two, only some are the first one, if there are many.
func rows(l []api.Stmt) [][]api.Stmt {
	all := [][]api.Stmt{nil}
	for i, s := range l {
		all = append(all, []api.Stmt{s})
		for j := 0; j < len(l); j += 1 + len(l)/8 {
			all = append(all, []api.Stmt{l[j], s}, []api.Stmt{l[i], l[j]})
		}
	}
	return all
}

func TestP1402EndsLikeGo(t *testing.T) {
	var f api.File
	f.Name = "p"
	bodies := rows(shapes(1))
	for i, s := range shapes(2) {
		if i%20 == 0 {
			bodies = append(bodies, []api.Stmt{s})
		}
	}
	for i, b := range bodies {
		f.Funcs = append(f.Funcs, api.Func{Name: fmt.Sprintf("f%d", i), Result: api.Int, Body: b})
	}
	missing := map[int]bool{}
	for _, e := range goErrors(t, f, nil) {
		if strings.Contains(e.Msg, "missing return") {
			missing[e.Fset.Position(e.Pos).Line] = true
		}
	}
	// Each function's last line is where Go says so.
	line, ended := 2, 0
	for _, g := range f.Funcs {
		line += strings.Count(goBlock(g.Body), "\n") + 1
		if got := Ends(g.Body); got == missing[line] || got != plainEnds(g.Body) {
			t.Fatalf("ends %v: %s", got, goBlock(g.Body))
		}
		if !missing[line] {
			ended++
		}
	}
	if ended < 500 || len(missing) < 500 {
		t.Error("too few of one kind:", ended, len(missing))
	}
}
