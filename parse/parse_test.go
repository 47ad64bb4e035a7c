package parse

import (
	"reflect"
	"slices"
	"strconv"
	"strings"
	"sync"
	"testing"
	"unsafe"

	"treadmill/api"
	"treadmill/lex"
	"treadmill/tree"
)

func number(n int64) api.Expr             { return api.Expr{Op: api.ExNum, N: n} }
func name(s string) api.Expr              { return api.Expr{Op: api.ExName, S: s} }
func made(op int, x ...api.Expr) api.Expr { return api.Expr{Op: op, X: x} }
func asked(q, s string, x ...api.Expr) api.Expr {
	return api.Expr{Op: api.ExCall, Q: q, S: s, X: x}
}
func printed(e api.Expr) api.Stmt { return api.Stmt{Op: api.StPrint, E: e} }

// inBody tells a text whose only function has a body.
func inBody(body string) string { return "package p\nfunc f() {" + body + "}" }

// repeat tells n times a text, with another one between.
func repeat(s, between string, n int) string {
	return strings.Join(slices.Repeat([]string{s}, n), between)
}

// want holds File, and Header, against an error.
func want(t *testing.T, text string, no api.Errno) {
	t.Helper()
	f, got := File(text)
	as(t, text, f, got, no)
	s, l, head := Header(text)
	if head != got || s != f.Name || !slices.Equal(l, f.Imports) {
		t.Errorf("%.200q: Header tells %q, %q, %d", text, s, l, head)
	}
	if got == api.OK && !tree.Right(f) {
		t.Errorf("%.200q: %v is not right", text, f)
	}
}

// wantExpr holds Expr against an error.
func wantExpr(t *testing.T, text string, no api.Errno) {
	t.Helper()
	e, got := Expr(text)
	as(t, text, e, got, no)
	if got == api.OK && !tree.Right(api.File{Name: "p", Funcs: []api.Func{{Name: "f", Body: []api.Stmt{printed(e)}}}}) {
		t.Errorf("%.200q: %v is not right", text, e)
	}
}

// as holds what is answered of a text against an error, beside which there is no tree.
func as[T any](t *testing.T, text string, tree T, got, no api.Errno) {
	t.Helper()
	var none T
	if got != no || got != api.OK && !reflect.DeepEqual(tree, none) {
		t.Errorf("%.200q: %v, %d, not %d", text, tree, got, no)
	}
}

// asExpr holds Expr against a tree.
func asExpr(t *testing.T, text string, e api.Expr) {
	t.Helper()
	wantExpr(t, text, api.OK)
	if got, _ := Expr(text); !reflect.DeepEqual(got, e) {
		t.Errorf("%q: %v, not %v", text, got, e)
	}
}

// asBody holds File against the statements of a function.
func asBody(t *testing.T, body string, l ...api.Stmt) {
	t.Helper()
	f, no := File(inBody(body))
	if no != api.OK || !reflect.DeepEqual(f, api.File{Name: "p", Funcs: []api.Func{{Name: "f", Body: l}}}) {
		t.Errorf("%q: %v, %d", body, f, no)
	}
	want(t, inBody(body), api.OK)
}

func TestP1002Example(t *testing.T) {
	sum := made(api.ExAdd, number(1), made(api.ExMul, number(2), number(3)))
	asBody(t, " print(1+2*3) ", printed(sum))
}

func TestP1002Heads(t *testing.T) {
	text := `package int; import "b"; import "a"
		import "b" // once more
		import "if"
		func f(x int, y bool) int { return x }
		func f() bool { }`
	f, no := File(text)
	g := api.File{Name: "int", Imports: []string{"b", "a", "b", "if"}, Funcs: []api.Func{
		{Name: "f", Params: []api.Param{{Name: "x", T: api.Int}, {Name: "y", T: api.Bool}}, Result: api.Int, Body: []api.Stmt{{Op: api.StReturn, E: name("x")}}},
		{Name: "f", Result: api.Bool}}}
	if no != api.OK || !reflect.DeepEqual(f, g) {
		t.Error(f, no)
	}
	want(t, text, api.OK)
	for _, s := range []string{"package p", "package p;", "\n\npackage p\n\n// end", "package if;", "package package; import \"package\"", "package var\nfunc go(type int) { }", "package p; import \"q\"; func f(\n\tx int,\n\ty int) { }\n"} {
		want(t, s, api.OK)
	}
	for _, s := range []string{"", ";", "p", "package", "package;", "package 1", "package \"p\"", "package if\n", "package p q", "package p;;", "package p; import", "package p; import q", "package p; import ;", "package p; import \"q\" import \"r\"", "package p; func f() { }; import \"q\"", "import \"q\"; package p", "package p; package p", "package p; import \"q\";;", "package p\nx := 1", "package p\nprint(1)"} {
		want(t, s, api.ErrSyntax)
	}
	for _, s := range []string{"func", "func f", "func f(", "func f()", "func () { }", "func if() { }", "func f { }", "func f() { } func g() { }", "func f(x) { }", "func f(int) { }", "func f(int x) { }", "func f(x, y int) { }", "func f(x int,) { }", "func f(,) { }", "func f(x int y int) { }", "func f(x int; y int) { }", "func f(x q) { }", "func f(x int) q { }", "func f() int bool { }", "func f() (int) { }", "func f()\n{ }", "func f() { }}", "func f() { };;", "func f() int", "func q.f() { }", "func f() \"int\" { }"} {
		want(t, "package p\n"+s, api.ErrSyntax)
	}
}

func TestP1002Statements(t *testing.T) {
	one, x := number(1), name("x")
	asBody(t, "x := 1; x = 1", api.Stmt{Op: api.StDef, S: "x", E: one}, api.Stmt{Op: api.StSet, S: "x", E: one})
	asBody(t, "x();q.G(1, x)", api.Stmt{Op: api.StCall, E: asked("", "x")}, api.Stmt{Op: api.StCall, E: asked("q", "G", one, x)})
	asBody(t, "return", api.Stmt{Op: api.StReturn})
	asBody(t, "return; return 1\nreturn\n", api.Stmt{Op: api.StReturn}, api.Stmt{Op: api.StReturn, E: one}, api.Stmt{Op: api.StReturn})
	asBody(t, "for { break; continue }", api.Stmt{Op: api.StFor, E: api.Expr{Op: api.ExBool, N: 1}, Body: []api.Stmt{{Op: api.StBreak}, {Op: api.StNext}}})
	asBody(t, "for false { }", api.Stmt{Op: api.StFor, E: api.Expr{Op: api.ExBool}})
	asBody(t, "for x { };", api.Stmt{Op: api.StFor, E: x})
	asBody(t, "if x { }", api.Stmt{Op: api.StIf, E: x})
	asBody(t, "if x { } else { }", api.Stmt{Op: api.StIf, E: x})
	asBody(t, "if x { return } else { x() }\n", api.Stmt{Op: api.StIf, E: x, Body: []api.Stmt{{Op: api.StReturn}}, Else: []api.Stmt{{Op: api.StCall, E: asked("", "x")}}})
	inner := api.Stmt{Op: api.StIf, E: one, Else: []api.Stmt{{Op: api.StBreak}}}
	asBody(t, "if x { } else if 1 { } else { break }", api.Stmt{Op: api.StIf, E: x, Else: []api.Stmt{inner}})
	asBody(t, "if x { } else { if 1 { } else { break } }", api.Stmt{Op: api.StIf, E: x, Else: []api.Stmt{inner}})
	for _, s := range []string{";", "x := 1;;", "x", "1", "x 1", "x := ", "x = ", "x == 1", "x : = 1", "1 := 1", "q.x := 1", "q.x = 1", "q.x", "q.if()", "f(", "f(1", "f(1,)", "f(,1)", "f(1 2)", "f(1;2)", "f()()", "f().g()", "(f)()", "f(1\n)", "true()", "a := 1 b := 2", "true := 1", "print", "print 1", "print 1)", "print()", "print(1, 2)", "print(1", "x := print(1)", "break 1", "break x", "continue 1", "return return", "return;;", "return 1, 2", "if { }", "if x", "if x else { }", "if x { } else", "if x { }\nelse { }", "if x { }; else { }", "if x { } else x()", "if x { } else for { }", "if x { } else { } else { }", "if x := 1 { }", "for x := 1 { }", "for ; ; { }", "for", "for 1", "for { } { }", "{ }", "func g() { }", "int := 1", "else { }", "if x { } return", "\"x\"", "return \"x\"", "package p"} {
		want(t, inBody(s), api.ErrSyntax)
	}
}

func TestP1002Rows(t *testing.T) {
	a, b, c := name("a"), name("b"), name("c")
	rows := [][]string{{"*", "/", "%"}, {"+", "-"}, {"==", "!=", "<", "<=", ">", ">="}, {"&&"}, {"||"}}
	ops := [][]int{{api.ExMul, api.ExDiv, api.ExRem}, {api.ExAdd, api.ExSub}, {api.ExEq, api.ExNe, api.ExLt, api.ExLe, api.ExGt, api.ExGe}, {api.ExAnd}, {api.ExOr}}
	for i, first := range rows {
		for k, s := range first {
			for j, second := range rows {
				for m, u := range second {
					left := made(ops[j][m], made(ops[i][k], a, b), c)
					right := made(ops[i][k], a, made(ops[j][m], b, c))
					text := "a" + s + "b" + u + "c"
					if i <= j {
						asExpr(t, text, left)
					} else {
						asExpr(t, text, right)
					}
					asExpr(t, "(a"+s+"b)"+u+"c", left)
					asExpr(t, "a"+s+"(b"+u+"c)", right)
				}
			}
			asExpr(t, "-a"+s+"!b", made(ops[i][k], made(api.ExNeg, a), made(api.ExNot, b)))
		}
	}
}

func TestP1002Expr(t *testing.T) {
	x := name("x")
	asExpr(t, "9223372036854775807", number(1<<63-1))
	asExpr(t, "0", number(0))
	asExpr(t, "true", api.Expr{Op: api.ExBool, N: 1})
	asExpr(t, "false", api.Expr{Op: api.ExBool})
	asExpr(t, "-1", made(api.ExNeg, number(1)))
	asExpr(t, "--!-x", made(api.ExNeg, made(api.ExNeg, made(api.ExNot, made(api.ExNeg, x)))))
	asExpr(t, "1--1", made(api.ExSub, number(1), made(api.ExNeg, number(1))))
	asExpr(t, "((x))", x)
	asExpr(t, "-(x)", made(api.ExNeg, x))
	asExpr(t, "f()", asked("", "f"))
	asExpr(t, "q.f((x), -x, g(x))", asked("q", "f", x, made(api.ExNeg, x), asked("", "g", x)))
	asExpr(t, "var", name("var"))
	for _, s := range []string{"x;", "x\n", "x // rest", "x\n\n", "\n x +\n x", "f(\nx,\nx)"} {
		wantExpr(t, s, api.OK)
	}
	for _, s := range []string{"", ";", "\n", "x;;", ";x", "x\n+x", "x x", "1 1", "x.", "x.y", "x.1()", "1.y()", "x.y.z()", "x()()", "x().y()", "(x)()", "()", "(x", "x)", "(x\n)", "f(x,)", "f(,)", "f(x x)", "x +", "+ x", "* x", "x ! x", "x = x", "x := x", "x & x", "\"x\"", "\"true\"", "int", "if", "print(x)", "return", "break", "{ }", "x { }", "x, x", "f(\"x\")", "x;x", "true()", "x; }", "!", "-", "x ==", "x . y"} {
		wantExpr(t, s, api.ErrSyntax)
	}
	wantExpr(t, "9223372036854775808", api.ErrLarge)
}

func TestP1002WordsFirst(t *testing.T) {
	deep := strings.Repeat("(", 25)
	// What Words tells is told ahead of all else.
	for _, s := range []string{deep + "#", deep + "01", deep + `"`, "#" + deep, "1 1 #"} {
		wantExpr(t, s, api.ErrSyntax)
		want(t, s, api.ErrSyntax)
	}
	for _, s := range []string{"abcdefghijklmnopq", "9223372036854775808 #", ") abcdefghijklmnopq", strings.Repeat(" ", 4097), strings.Repeat("#", 4097), strings.Repeat("+", 2049), strings.Repeat("-", 2047) + "1"} {
		wantExpr(t, s, api.ErrLarge)
		want(t, s, api.ErrLarge)
	}
	wantExpr(t, strings.Repeat("+", 2048), api.ErrSyntax)
	wantExpr(t, strings.Repeat("-", 2046)+"1", api.OK)
	wantExpr(t, strings.Repeat(" ", 4095)+"1", api.OK)
	want(t, strings.Repeat(" ", 4096), api.ErrSyntax)
}

func TestP1002NestNext(t *testing.T) {
	// With what is open around it, 24 are; a Nest above that is told ahead of wrong words.
	for n := range 40 {
		no := bound(n)
		wantExpr(t, strings.Repeat("(", n)+"1"+strings.Repeat(")", n), no)
		wantExpr(t, strings.Repeat("f(-", n)+"1"+strings.Repeat(")", n), no)
		wantExpr(t, strings.Repeat("(", n), syntax(no))
		wantExpr(t, strings.Repeat("{ (", n/2)+strings.Repeat("{", n%2), syntax(no))
		wantExpr(t, strings.Repeat(")", n)+strings.Repeat("(", n), syntax(no))
		want(t, "package p; func f() "+strings.Repeat("{ if x ", n)+"{ }"+strings.Repeat("}", n), bound(n+1))
		want(t, "package p; func f() { print("+strings.Repeat("(", n)+"1"+strings.Repeat(")", n)+") }", bound(n+2))
		want(t, "package p; func f()"+strings.Repeat("{", n), syntax(no))
	}
	wantExpr(t, repeat("("+strings.Repeat("(", 23)+"1"+strings.Repeat(")", 23)+")", "+", 20), api.OK)
}

// bound is ErrLarge of a nest that is too much.
func bound(n int) api.Errno {
	if n > api.MaxNest {
		return api.ErrLarge
	}
	return api.OK
}

// syntax is ErrSyntax, where nothing else is ahead of it.
func syntax(no api.Errno) api.Errno {
	if no == api.OK {
		return api.ErrSyntax
	}
	return no
}

func TestP1002LargeLast(t *testing.T) {
	many := func(one, between string, n int) string { return repeat(one, between, n) }
	over := func(n, most int) api.Errno {
		if n > most {
			return api.ErrLarge
		}
		return api.OK
	}
	for _, n := range []int{0, 1, 7, 8, 9, 10, 40} {
		want(t, "package p\n"+many("import \"q\"\n", "", n), over(n, api.MaxImports))
		want(t, "package p\n"+many("import \"q\"\n", "", n)+"x", api.ErrSyntax)
	}
	for _, n := range []int{1, 31, 32, 33, 34, 64, 200} {
		want(t, "package p\n"+many("func f() { }\n", "", n), over(n, api.MaxFuncs))
		want(t, "package p\n"+many("func f() { }\n", "", n)+"x", api.ErrSyntax)
	}
	for _, n := range []int{1, 3, 4, 5, 6, 100} {
		want(t, "package p\nfunc f("+many("x int", ", ", n)+") { }", over(n, api.MaxParams))
		want(t, "package p\nfunc f("+many("x int", ", ", n)+") { }\nfunc g(x int) bool { }", over(n, api.MaxParams))
		want(t, "package p\nfunc f("+many("x int", ", ", n)+") { }; x", api.ErrSyntax)
	}
	for _, n := range []int{0, 1, 254, 255, 256, 257, 800} {
		f := "f(" + many("1", ",", n) + ")"
		for _, s := range []string{f, "q." + f, "-" + f, "1+" + f, "(" + f + ")", "g(1, " + f + ")", "g(" + f + ", 1)", "g(g(1, 2) + " + f + " * 1)"} {
			wantExpr(t, s, over(n, 255))
			wantExpr(t, s+"1", api.ErrSyntax)
			for _, u := range []string{"x := #", "x = #", "print(#)", "return #", "if # { }", "for # { }", "if x { } else if # { }", "if x { print(#) }", "if x { } else { print(#) }", "f(#)", "for { x = # }"} {
				want(t, inBody(strings.Replace(u, "#", s, 1)), over(n, 255))
			}
		}
		want(t, inBody(f), over(n, 255))
		want(t, inBody(f+"; "), over(n, 255))
		want(t, inBody(f+";;"), api.ErrSyntax)
	}
}

func TestP1002Long(t *testing.T) {
	// Nothing but the number of words bounds these.
	wantExpr(t, repeat("1", "+", 1023), api.OK)
	wantExpr(t, strings.Repeat("!", 2046)+"x", api.OK)
	want(t, inBody("if x { }"+strings.Repeat("else if x{}", 300)), api.OK)
	want(t, inBody("if x { }"+strings.Repeat("else if x{}", 300)+"else"), api.ErrSyntax)
	want(t, inBody(strings.Repeat("x=1;", 500)), api.OK)
	f, _ := File(inBody("if x { }" + strings.Repeat("else if x{}", 300)))
	if n := tree.Count(f, 10000); n != 1+2*301 {
		t.Error(n)
	}
}

func TestP1002Grammar(t *testing.T) {
	m := newMaker(1002)
	for range 1500 {
		words := m.of("File")
		if len(words) > 250 {
			continue
		}
		text := strings.Join(words, " ")
		holdFile(t, text)
		for range 3 {
			holdFile(t, strings.Join(m.spoil(words), " "))
		}
		part := words[:m.Intn(len(words)+1)]
		holdFile(t, strings.Join(part, " "))
	}
}

// holdFile holds File against the grammar, and against Go's parser.
func holdFile(t *testing.T, text string) {
	t.Helper()
	want(t, text, foretold(text, "File"))
	f, no := File(text)
	if no != api.OK {
		return
	}
	g, err := goFile(text, f.Name)
	if err != nil || !reflect.DeepEqual(f, g) {
		t.Errorf("%q: %v, not %v: %v", text, f, g, err)
	}
}

// foretold tells the error of a text of a rule, with no more than 255 arguments anywhere.
func foretold(text, rule string) api.Errno {
	words, no := lex.Words(text)
	if no != api.OK {
		return no
	}
	if Nest(words) > api.MaxNest {
		return api.ErrLarge
	}
	if !leads(rule, words) {
		return api.ErrSyntax
	}
	imports, funcs := 0, 0
	for i, w := range words {
		switch {
		case w == (api.Word{Kind: api.WordKey, S: "import"}) && i > 1:
			imports++
		case w == (api.Word{Kind: api.WordKey, S: "func"}) && i > 1:
			funcs++
		}
		if rest := words[i:]; w.S == "func" && len(rest) > 16 && manyParams(rest) {
			return api.ErrLarge
		}
	}
	if imports > api.MaxImports || funcs > api.MaxFuncs {
		return api.ErrLarge
	}
	return api.OK
}

// manyParams tells whether the function that begins words has more than 4 parameters: the word behind the fourth one is a comma.
func manyParams(words []api.Word) bool {
	return words[2].S == "(" && words[3].S != ")" && words[5].S == "," && words[8].S == "," && words[11].S == "," && words[14].S == ","
}

func TestP1002GrammarExpr(t *testing.T) {
	m := newMaker(2)
	for range 4000 {
		words := m.of("Expr")
		if len(words) > 150 {
			continue
		}
		holdExpr(t, strings.Join(words, " "))
		holdExpr(t, strings.Join(m.spoil(words), " "))
	}
	// All rows of up to four words, of some.
	alphabet := []string{"1", "x", "(", ")", "-", "!", "+", "==", "&&", ".", ",", ";"}
	rows := []string{""}
	for from := 0; len(rows) < 1+12+144+1728+20736; from++ {
		for _, s := range alphabet {
			rows = append(rows, rows[from]+" "+s)
		}
	}
	for _, s := range rows {
		holdExpr(t, s)
	}
}

func holdExpr(t *testing.T, text string) {
	t.Helper()
	wantExpr(t, text, foretold(text, "Alone"))
	e, no := Expr(text)
	if no != api.OK {
		return
	}
	g, err := goExpr(strings.TrimRight(text, " ;"))
	if err != nil || !reflect.DeepEqual(e, g) {
		t.Errorf("%q: %v, not %v: %v", text, e, g, err)
	}
}

func TestP1002Nest(t *testing.T) {
	sign := func(l ...string) []api.Word {
		var words []api.Word
		for _, s := range l {
			words = append(words, api.Word{Kind: api.WordSign, S: s})
		}
		return words
	}
	for _, c := range []struct {
		l []api.Word
		n int
	}{
		{nil, 0}, {[]api.Word{}, 0}, {sign("("), 1}, {sign("{"), 1}, {sign("(", "{", "("), 3}, {sign(")", "}", ")"), 0},
		{sign(")", ")", "(", "("), 2}, {sign("(", ")", "(", ")"), 1}, {sign("(", "}", "{", ")"), 1}, {sign("(", "(", ")", "(", "(", ")", ")"), 3},
		{sign("+", "((", "", "{{", "()"), 0}, {sign("(", ")", ")", "(", "("), 2}, {sign("(", "{", "}", ")", "{"), 2},
		{[]api.Word{{Kind: api.WordName, S: "("}, {Kind: api.WordText, S: "{"}, {Kind: api.WordNum, S: "("}, {Kind: api.WordEnd, S: "("}, {Kind: -1, S: "("}, {Kind: 6, S: "{"}}, 0},
		{[]api.Word{{Kind: api.WordSign, S: "("}, {Kind: api.WordName, S: ")"}, {Kind: api.WordSign, S: "{", N: -1}}, 2},
		{slices.Repeat(sign("("), 100000), 100000},
	} {
		was := slices.Clone(c.l)
		if n := Nest(c.l); n != c.n {
			t.Errorf("%.20v: %d, not %d", c.l, n, c.n)
		}
		if !slices.Equal(c.l, was) {
			t.Error("words are changed")
		}
	}
}

// Brackets are signs: a word of another kind opens nothing and closes nothing, whatever its letters.
func TestP1002NestSignsAlone(t *testing.T) {
	sign := func(s string) api.Word { return api.Word{Kind: api.WordSign, S: s} }
	for _, kind := range []int{api.WordEnd, api.WordName, api.WordNum, api.WordText, api.WordKey, -1, 6, 1 << 40} {
		for _, s := range []string{"(", "{", ")", "}"} {
			w := api.Word{Kind: kind, S: s}
			for _, c := range []struct {
				l []api.Word
				n int
			}{
				{[]api.Word{w}, 0}, {[]api.Word{w, w, w}, 0},
				{[]api.Word{w, sign("(")}, 1}, {[]api.Word{sign("{"), w}, 1},
				{[]api.Word{sign("("), w, sign("(")}, 2}, {[]api.Word{sign("{"), w, sign("{"), w}, 2},
				{[]api.Word{sign("("), w, sign(")"), w, sign("{")}, 1},
			} {
				if n := Nest(c.l); n != c.n {
					t.Errorf("%v: %d, not %d", c.l, n, c.n)
				}
			}
		}
	}
}

// A key is a word of that kind alone, and a sign likewise: each is none of the other kind.
func TestP1002KeysAndSigns(t *testing.T) {
	for _, literal := range literals() {
		s := strings.Trim(literal, `"`)
		kind := api.WordSign
		if lex.Key(s) {
			kind = api.WordKey
		}
		for k := -1; k < 8; k++ {
			if got := is(api.Word{Kind: k, S: s}, s); got != (k == kind) {
				t.Errorf("%q of kind %d: %v", s, k, got)
			}
			if is(api.Word{Kind: k, S: s + s}, s) || is(api.Word{Kind: k}, s) {
				t.Errorf("%q is told of others of kind %d", s, k)
			}
		}
	}
}

func TestP1002Header(t *testing.T) {
	s, l, no := Header("package if; import \"b\"; import \"a\"; import \"b\"; func f() { }")
	if s != "if" || !slices.Equal(l, []string{"b", "a", "b"}) || no != api.OK {
		t.Error(s, l, no)
	}
	// Of a text whose File may not be told, nothing is.
	for text, want := range map[string]api.Errno{
		"package p; import \"q\"; func f() { x }":                              api.ErrSyntax,
		"package p; import \"q\"; func f() { x := 01 }":                        api.ErrSyntax,
		"package p; import \"q\"; func f(" + repeat("x int", ",", 5) + ") { }": api.ErrLarge,
		"package p; import \"q\"; func f() { print(" + strings.Repeat("(", 23): api.ErrLarge,
	} {
		if s, l, no := Header(text); s != "" || len(l) != 0 || no != want {
			t.Error(text, s, l, no)
		}
	}
}

func TestP1003Right(t *testing.T) {
	m := newMaker(1003)
	told := 0
	for range 1500 {
		words := m.of("File")
		if m.Intn(2) == 0 {
			words = m.spoil(words)
		}
		f, no := File(strings.Join(words, " "))
		if no == api.OK {
			told++
		}
		if no == api.OK && !tree.Right(f) {
			t.Error(words)
		}
	}
	if told < 600 {
		t.Error(told)
	}
}

const all = "package p\nimport \"q\"\nimport \"r\"\nfunc f(x int, y bool) int { z := q.G(x, (x)); for { break }; if y { return } else if !y { f(1, true) } else { print(-z) } }\nfunc g() { }"

func TestP1001NothingShared(t *testing.T) {
	was, _ := File(all)
	letters := []byte(all)
	f, _ := File(unsafe.String(&letters[0], len(letters)))
	s, l, _ := Header(unsafe.String(&letters[0], len(letters)))
	row := []byte("f(x, q.G(y))")
	e, _ := Expr(unsafe.String(&row[0], len(row)))
	clear(letters)
	clear(row)
	if !reflect.DeepEqual(f, was) || s != "p" || !slices.Equal(l, []string{"q", "r"}) || !reflect.DeepEqual(e, asked("", "f", name("x"), asked("q", "G", name("y")))) {
		t.Error(f, s, l, e)
	}
	lists, texts := memory(reflect.ValueOf(f), nil, nil)
	apart(t, append(lists, texts...))
	g, _ := File(all)
	more, named := memory(reflect.ValueOf(g), nil, nil)
	apart(t, append(append(lists, more...), append(texts, named...)...))
	h := was
	clear(f.Funcs[:cap(f.Funcs)])
	clear(f.Imports[:cap(f.Imports)])
	if k, _ := File(all); !reflect.DeepEqual(k, h) || !reflect.DeepEqual(g, h) {
		t.Error(k)
	}
}

// memory tells where the lists of something lie, with the room behind them, and where its texts lie.
func memory(v reflect.Value, lists, texts [][2]uintptr) ([][2]uintptr, [][2]uintptr) {
	switch v.Kind() {
	case reflect.Slice:
		if v.Cap() > 0 {
			at := v.Pointer()
			lists = append(lists, [2]uintptr{at, at + uintptr(v.Cap())*v.Type().Elem().Size()})
		}
		for i := range v.Len() {
			lists, texts = memory(v.Index(i), lists, texts)
		}
	case reflect.Struct:
		for i := range v.NumField() {
			lists, texts = memory(v.Field(i), lists, texts)
		}
	case reflect.String:
		if s := v.String(); s != "" {
			at := uintptr(unsafe.Pointer(unsafe.StringData(s)))
			texts = append(texts, [2]uintptr{at, at + uintptr(len(s))})
		}
	}
	return lists, texts
}

// apart asks that no two places overlap.
func apart(t *testing.T, places [][2]uintptr) {
	t.Helper()
	slices.SortFunc(places, func(a, b [2]uintptr) int { return int(a[0]) - int(b[0]) })
	for i := 1; i < len(places); i++ {
		if places[i][0] < places[i-1][1] {
			t.Fatal("memory is shared")
		}
	}
}

func TestP1001AnyText(t *testing.T) {
	m := newMaker(1001)
	for n := range 4000 {
		letters := make([]byte, m.Intn(60))
		for i := range letters {
			letters[i] = byte(m.Intn(256))
			if n%2 == 0 {
				letters[i] = "package p;func f(){x:=1 .,!&|\"/\n"[m.Intn(32)]
			}
		}
		want(t, string(letters), foretold(string(letters), "File"))
		wantExpr(t, string(letters), foretold(string(letters), "Alone"))
	}
}

func TestP1001SameFromAll(t *testing.T) {
	f, _ := File(all)
	e, _ := Expr("f(x, -1) + 2")
	var wait sync.WaitGroup
	for n := range 8 {
		wait.Go(func() {
			for range 50 {
				g, _ := File(all)
				File("package p" + strconv.Itoa(n) + "(")
				d, _ := Expr("f(x, -1) + 2")
				if !reflect.DeepEqual(f, g) || !reflect.DeepEqual(d, e) {
					t.Error(g, d)
				}
			}
		})
	}
	wait.Wait()
}
