package parse

import (
	"go/ast"
	"go/parser"
	"go/token"
	"strconv"
	"strings"

	"treadmill/api"
)

// MiniGo is a part of Go, so Go's own parser tells what a tree has to be.

var goOps = map[token.Token]int{
	token.MUL: api.ExMul, token.QUO: api.ExDiv, token.REM: api.ExRem, token.ADD: api.ExAdd, token.SUB: api.ExSub,
	token.EQL: api.ExEq, token.NEQ: api.ExNe, token.LSS: api.ExLt, token.LEQ: api.ExLe, token.GTR: api.ExGt, token.GEQ: api.ExGe,
	token.LAND: api.ExAnd, token.LOR: api.ExOr,
}

// goFile tells the tree of a text by Go's parser. A package's name may be a key, which Go refuses, so it is laid in behind.
func goFile(text, name string) (api.File, error) {
	_, rest, _ := strings.Cut(strings.TrimLeft(text, " "), " ")
	_, rest, _ = strings.Cut(rest, " ")
	g, err := parser.ParseFile(token.NewFileSet(), "", "package p "+rest, parser.SkipObjectResolution)
	if err != nil {
		return api.File{}, err
	}
	f := api.File{Name: name}
	for _, i := range g.Imports {
		s, _ := strconv.Unquote(i.Path.Value)
		f.Imports = append(f.Imports, s)
	}
	for _, d := range g.Decls {
		if d, ok := d.(*ast.FuncDecl); ok {
			f.Funcs = append(f.Funcs, goFunc(d))
		}
	}
	return f, nil
}

func goExpr(text string) (api.Expr, error) {
	e, err := parser.ParseExpr(text)
	if err != nil {
		return api.Expr{}, err
	}
	return toExpr(e), nil
}

func goFunc(d *ast.FuncDecl) api.Func {
	f := api.Func{Name: d.Name.Name, Body: toBlock(d.Body)}
	for _, p := range d.Type.Params.List {
		f.Params = append(f.Params, api.Param{Name: p.Names[0].Name, T: toType(p.Type)})
	}
	if d.Type.Results != nil {
		f.Result = toType(d.Type.Results.List[0].Type)
	}
	return f
}

func toType(e ast.Expr) api.Type {
	return map[string]api.Type{"int": api.Int, "bool": api.Bool}[e.(*ast.Ident).Name]
}

func toBlock(b *ast.BlockStmt) []api.Stmt {
	var l []api.Stmt
	for _, s := range b.List {
		l = append(l, toStmt(s))
	}
	return l
}

func toStmt(s ast.Stmt) api.Stmt {
	switch s := s.(type) {
	case *ast.IfStmt:
		t := api.Stmt{Op: api.StIf, E: toExpr(s.Cond), Body: toBlock(s.Body)}
		switch e := s.Else.(type) {
		case *ast.IfStmt:
			t.Else = []api.Stmt{toStmt(e)}
		case *ast.BlockStmt:
			t.Else = toBlock(e)
		}
		return t
	case *ast.ForStmt:
		if s.Cond == nil {
			s.Cond = &ast.Ident{Name: "true"}
		}
		return api.Stmt{Op: api.StFor, E: toExpr(s.Cond), Body: toBlock(s.Body)}
	case *ast.ReturnStmt:
		if s.Results == nil {
			return api.Stmt{Op: api.StReturn}
		}
		return api.Stmt{Op: api.StReturn, E: toExpr(s.Results[0])}
	case *ast.BranchStmt:
		return api.Stmt{Op: map[token.Token]int{token.BREAK: api.StBreak, token.CONTINUE: api.StNext}[s.Tok]}
	case *ast.AssignStmt:
		op := map[token.Token]int{token.DEFINE: api.StDef, token.ASSIGN: api.StSet}[s.Tok]
		return api.Stmt{Op: op, S: s.Lhs[0].(*ast.Ident).Name, E: toExpr(s.Rhs[0])}
	case *ast.ExprStmt:
		e := toExpr(s.X)
		if e.S == "print" {
			return api.Stmt{Op: api.StPrint, E: e.X[0]}
		}
		return api.Stmt{Op: api.StCall, E: e}
	}
	panic(s)
}

func toExpr(e ast.Expr) api.Expr {
	switch e := e.(type) {
	case *ast.BasicLit:
		n, _ := strconv.ParseInt(e.Value, 10, 64)
		return api.Expr{Op: api.ExNum, N: n}
	case *ast.Ident:
		switch e.Name {
		case "true":
			return api.Expr{Op: api.ExBool, N: 1}
		case "false":
			return api.Expr{Op: api.ExBool}
		}
		return api.Expr{Op: api.ExName, S: e.Name}
	case *ast.ParenExpr:
		return toExpr(e.X)
	case *ast.UnaryExpr:
		return api.Expr{Op: map[token.Token]int{token.SUB: api.ExNeg, token.NOT: api.ExNot}[e.Op], X: []api.Expr{toExpr(e.X)}}
	case *ast.BinaryExpr:
		return api.Expr{Op: goOps[e.Op], X: []api.Expr{toExpr(e.X), toExpr(e.Y)}}
	case *ast.CallExpr:
		c := api.Expr{Op: api.ExCall}
		switch f := e.Fun.(type) {
		case *ast.Ident:
			c.S = f.Name
		case *ast.SelectorExpr:
			c.Q, c.S = f.X.(*ast.Ident).Name, f.Sel.Name
		}
		for _, a := range e.Args {
			c.X = append(c.X, toExpr(a))
		}
		return c
	}
	panic(e)
}
