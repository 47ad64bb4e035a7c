package lex

import (
	"math"
	"math/big"
	"math/rand"
	"regexp"
	"slices"
	"strings"
	"sync"
	"testing"
	"unsafe"

	"treadmill/api"
)

var keys = []string{"package", "import", "func", "if", "else", "for", "return", "print", "break", "continue", "int", "bool", "true", "false"}

// allSigns are those of the document, as they stand there.
var allSigns = strings.Fields("( ) { } , ; . := = == != < <= > >= + - * / % ! && ||")

// lastWords are those behind which a line's end stands for a sign.
var lastWords = []api.Word{
	name("x"), name("_"), name("If"), number(0), number(math.MaxInt64), text("q"), text("if"), sign(")"), sign("}"),
	key("return"), key("break"), key("continue"), key("int"), key("bool"), key("true"), key("false"),
}

func name(s string) api.Word    { return api.Word{Kind: api.WordName, S: s} }
func key(s string) api.Word     { return api.Word{Kind: api.WordKey, S: s} }
func text(s string) api.Word    { return api.Word{Kind: api.WordText, S: s} }
func sign(s string) api.Word    { return api.Word{Kind: api.WordSign, S: s} }
func number(n int64) api.Word   { return api.Word{Kind: api.WordNum, N: n} }
func many(c byte, n int) string { return strings.Repeat(string([]byte{c}), n) }

// alike tells whether two lists have the same words; nil and empty ones are the same.
func alike(a, b []api.Word) bool {
	return slices.Equal(a, b)
}

func mustTell(t *testing.T, s string, want ...api.Word) {
	t.Helper()
	if l, e := Words(s); e != api.OK || !alike(l, want) {
		t.Errorf("%.80q: %v %v, want %v", s, l, e, want)
	}
}

func mustRefuse(t *testing.T, s string, want api.Errno) {
	t.Helper()
	if l, e := Words(s); e != want || len(l) != 0 {
		t.Errorf("%.80q: %v %v, want %v", s, l, e, want)
	}
}

// part is what stands at a text's front, each kind in a group of its own.
var part = regexp.MustCompile(`^(?:([ \t\r]|//[^\n]*)|(\n)|([A-Za-z_][A-Za-z0-9_]*)|([0-9]+)|("[^"]*")|(:=|==|!=|<=|>=|&&|\|\||[(){},;.=<>+\-*/%!]))`)

var ending = regexp.MustCompile(`^(return|break|continue|int|bool|true|false|[)}])$`)

// wantEnd tells the words, with the sign of a line's end.
func wantEnd(l []api.Word) []api.Word {
	if len(l) == 0 {
		return l
	}
	w := l[len(l)-1]
	if w.Kind == api.WordName || w.Kind == api.WordNum || w.Kind == api.WordText || ending.MatchString(w.S) {
		return append(l, sign(";"))
	}
	return l
}

func wantNumber(s string) (api.Word, api.Errno) {
	if s != "0" && s[0] == '0' {
		return api.Word{}, api.ErrSyntax
	}
	n, _ := new(big.Int).SetString(s, 10)
	if !n.IsInt64() {
		return api.Word{}, api.ErrLarge
	}
	return number(n.Int64()), api.OK
}

func wantRow(s string) (api.Word, api.Errno) {
	switch {
	case len(s) > 16:
		return api.Word{}, api.ErrLarge
	case slices.Contains(keys, s):
		return key(s), api.OK
	}
	return name(s), api.OK
}

func wantText(s string) (api.Word, api.Errno) {
	if !regexp.MustCompile(`^[A-Za-z_][A-Za-z0-9_]{0,15}$`).MatchString(s) {
		return api.Word{}, api.ErrSyntax
	}
	return text(s), api.OK
}

// wantWord tells the word that stands in the groups of a match; false, if none does.
func wantWord(m []string) (w api.Word, e api.Errno, is bool) {
	switch {
	case m[3] != "":
		w, e = wantRow(m[3])
	case m[4] != "":
		w, e = wantNumber(m[4])
	case m[5] != "":
		w, e = wantText(strings.Trim(m[5], `"`))
	case m[6] != "":
		w = sign(m[6])
	default:
		return w, e, false
	}
	return w, e, true
}

// wantWords reads a text by patterns.
func wantWords(s string) ([]api.Word, api.Errno) {
	if len(s) > 4096 {
		return nil, api.ErrLarge
	}
	var l []api.Word
	for s != "" {
		m := part.FindStringSubmatch(s)
		if m == nil {
			return nil, api.ErrSyntax
		}
		s = s[len(m[0]):]
		if m[2] != "" {
			l = wantEnd(l)
		}
		w, e, is := wantWord(m)
		if e != api.OK {
			return nil, e
		}
		if is {
			l = append(l, w)
		}
	}
	if l = wantEnd(l); len(l) > 2048 {
		return nil, api.ErrLarge
	}
	return l, api.OK
}

// pieces are what texts are made of: words, edges, what no word has, and what turns a sign to another one.
func pieces() []string {
	return slices.Concat(keys, allSigns, []string{
		" ", "\t", "\r", "\n", "\n\n", "//", "// x\n", "/ /", `"`, `"q"`, `"for"`, `""`, `" q"`, "\"a\nb\"", `"1"`,
		"x", "_", "Ab", "a1", "forx", "For", many('a', 16), many('a', 17), "0", "7", "42", "00", "01", "9223372036854775807", "9223372036854775808", many('9', 19), many('1', 20), many('0', 20),
		"&", "|", ":", "'", "`", "#", "@", "\x00", "\v", "\f", "\x7f", "\x80", "\xff", "é", "１", "ａ", "\u00a0", "\u2028",
	})
}

// texts are made of pieces, the same ones each time. Most have right pieces alone: the first wrong one hides what is behind it.
func texts(n, most int) []string {
	r := rand.New(rand.NewSource(8))
	all := pieces()
	right := slices.DeleteFunc(slices.Clone(all), func(s string) bool {
		_, e := wantWords(s)
		return e != api.OK
	})
	var l []string
	for i := range n {
		from := right
		if i%4 == 0 {
			from = all
		}
		var b strings.Builder
		for range r.Intn(most) {
			b.WriteString(from[r.Intn(len(from))])
		}
		l = append(l, b.String())
	}
	return l
}

func TestP801EndsAtAnyText(t *testing.T) {
	for _, s := range []string{"", "\x00", "\xff\xfe", many('(', 1<<20), many('a', 1<<20), many('0', 1<<20), many('"', 1<<20), many('/', 1<<20), many('\n', 1<<20), many(0xff, 1<<20)} {
		Words(s)
		Name(s)
		Key(s)
		Upper(s)
		for _, kind := range []int{math.MinInt, -1, 0, 1, 2, 3, 4, 5, 6, 255, 256 + 1, 1 << 32, math.MaxInt} {
			for _, n := range []int64{math.MinInt64, -1, 0, 1, math.MaxInt64} {
				Show(api.Word{Kind: kind, S: s, N: n})
			}
		}
	}
}

func TestP801PureFunctions(t *testing.T) {
	list := texts(300, 40)
	var first [][]api.Word
	var errs []api.Errno
	for _, s := range list {
		l, e := Words(s)
		first, errs = append(first, l), append(errs, e)
	}
	var g sync.WaitGroup
	for range 4 {
		g.Add(1)
		go func() {
			defer g.Done()
			for i, s := range list {
				if l, e := Words(s); e != errs[i] || !alike(l, first[i]) {
					t.Errorf("%q: another answer", s)
				}
			}
		}()
	}
	g.Wait()
}

// behind is a text that hangs on bytes: as they are changed, so is it, and whatever shares their memory.
func behind(b []byte) string {
	return unsafe.String(&b[0], len(b))
}

func TestP801WordsShareNothing(t *testing.T) {
	b := []byte(`func Abc(x int) { "pkg" ; return 12 <= x }`)
	want, _ := Words(string(b))
	l, e := Words(behind(b))
	clear(b)
	if e != api.OK || !alike(l, want) {
		t.Error(l, "shares with the text")
	}
	const s = "a b c ( 1"
	one, _ := Words(s)
	two, _ := Words(s)
	clear(one[:cap(one)])
	_ = append(one[:0], name("z"))
	if three, _ := Words(s); !alike(two, three) || !alike(two, []api.Word{name("a"), name("b"), name("c"), sign("("), number(1), sign(";")}) {
		t.Error(two, three)
	}
}

func TestP801ShownSharesNothing(t *testing.T) {
	for _, kind := range []int{api.WordName, api.WordText, api.WordKey, api.WordSign} {
		b := []byte("abc")
		s := Show(api.Word{Kind: kind, S: behind(b)})
		clear(b)
		if strings.Trim(s, `"`) != "abc" {
			t.Errorf("%d: %q", kind, s)
		}
	}
}

func TestP802Named(t *testing.T) {
	mustTell(t, "x := 1", name("x"), sign(":="), number(1), sign(";"))
	mustTell(t, "")
	mustTell(t, "package p\nimport \"q\"\nfunc F(a int, b bool) int {\n\treturn q.G(a%2)*-1 // all\n}\n",
		key("package"), name("p"), sign(";"), key("import"), text("q"), sign(";"),
		key("func"), name("F"), sign("("), name("a"), key("int"), sign(","), name("b"), key("bool"), sign(")"), key("int"), sign("{"),
		key("return"), name("q"), sign("."), name("G"), sign("("), name("a"), sign("%"), number(2), sign(")"), sign("*"), sign("-"), number(1), sign(";"),
		sign("}"), sign(";"))
}

func TestP802Keys(t *testing.T) {
	for _, k := range keys {
		for _, s := range []string{k, " " + k + "\t", k + "//", "\r" + k} {
			if l, e := Words(s); e != api.OK || len(l) < 1 || l[0] != key(k) {
				t.Errorf("%q: %v %v", s, l, e)
			}
		}
		for _, s := range []string{k + "x", k + "1", "_" + k, k + "_", strings.ToUpper(k), k[:len(k)-1]} {
			mustTell(t, s, name(s), sign(";"))
		}
	}
}

func TestP802Names(t *testing.T) {
	for _, s := range []string{"a", "z", "A", "Z", "_", "__", "_0", "x9", "aZ_09", many('a', 15), many('Z', 16), many('_', 16), "a" + many('9', 15), "main", "nil", "var", "Int"} {
		mustTell(t, s, name(s), sign(";"))
	}
	for _, s := range []string{many('a', 17), many('_', 17), "a" + many('9', 16), many('b', 4096), "return" + many('x', 11)} {
		mustRefuse(t, s, api.ErrLarge)
		mustRefuse(t, "x "+s[:17]+" &", api.ErrLarge)
	}
	// What begins with a digit is a number as far as digits go.
	mustTell(t, "1a", number(1), name("a"), sign(";"))
	mustTell(t, "0x10", number(0), name("x10"), sign(";"))
	mustTell(t, "1_000", number(1), name("_000"), sign(";"))
	mustTell(t, "1"+many('a', 16), number(1), name(many('a', 16)), sign(";"))
	mustRefuse(t, "1"+many('a', 17), api.ErrLarge)
	mustTell(t, "2if", number(2), key("if"))
}

func TestP802Numbers(t *testing.T) {
	for _, n := range []int64{0, 1, 7, 9, 10, 99, 100, 1 << 32, 1e16, 1e17, 1e18, math.MaxInt64 - 1, math.MaxInt64} {
		s := big.NewInt(n).String()
		mustTell(t, s, number(n), sign(";"))
		mustTell(t, "-"+s, sign("-"), number(n), sign(";"))
		mustTell(t, s+"."+s, number(n), sign("."), number(n), sign(";"))
	}
	for _, s := range []string{"9223372036854775808", "9999999999999999999", "18446744073709551615", "18446744073709551616", "18446744073709551617", many('1', 20), "1" + many('0', 19), "1" + many('0', 4095)} {
		mustRefuse(t, s, api.ErrLarge)
		mustRefuse(t, "x = "+s[:min(len(s), 30)]+" &", api.ErrLarge)
	}
	for _, s := range []string{"00", "01", "007", "00000000000000000000", "09223372036854775807", "09223372036854775808", many('0', 19) + "1", "0" + many('9', 30), many('0', 4096)} {
		mustRefuse(t, s, api.ErrSyntax)
	}
	mustRefuse(t, "1 00", api.ErrSyntax)
	mustTell(t, "0 0", number(0), number(0), sign(";"))
}

func TestP802Texts(t *testing.T) {
	for _, s := range slices.Concat(keys, []string{"p", "_", "q2", "Abc", many('a', 16)}) {
		mustTell(t, `"`+s+`"`, text(s), sign(";"))
		mustTell(t, `x"`+s+`"("`+s+`"`, name("x"), text(s), sign("("), text(s), sign(";"))
	}
	for _, s := range []string{
		`"`, `""`, `"a`, `"a" "`, `"a""`, `" a"`, `"a "`, `"a b"`, `"1"`, `"1a"`, `"a/b"`, `"a.b"`, `"//"`, `"a//"`, `"é"`, "\"a\xff\"", "\"a\n\"", "\"\na\"", "\"a\nb\"", "\"a\tb\"", "\"a\x00\"", `"\""`,
		`"` + many('a', 17) + `"`, `"` + many('a', 17), `"` + many('1', 20) + `"`, `"a // "`, "\"a\nb", "'a'", "`a`",
	} {
		mustRefuse(t, s, api.ErrSyntax)
		mustRefuse(t, "x ( "+s, api.ErrSyntax)
	}
}

func TestP802Signs(t *testing.T) {
	for _, s := range allSigns {
		want := []api.Word{sign(s)}
		if s == ")" || s == "}" {
			want = append(want, sign(";"))
		}
		mustTell(t, s, want...)
		mustTell(t, "a"+s+"b", name("a"), sign(s), name("b"), sign(";"))
	}
	for _, x := range []struct{ s, apart string }{
		{"===", "== ="}, {"====", "== =="}, {":===", ":= =="}, {":==", ":= ="}, {"!==", "!= ="}, {"<==", "<= ="}, {">==", ">= ="}, {"=<", "= <"}, {"=>", "= >"}, {"<<=", "< <="}, {"<>", "< >"},
		{"!!=", "! !="}, {"=!", "= !"}, {"&&&&", "&& &&"}, {"||||", "|| ||"}, {"&&||", "&& ||"}, {"++", "+ +"}, {"--", "- -"}, {"-=", "- ="}, {"*/", "* /"}, {"...", ". . ."}, {"(){", "( ) {"}, {"=:=", "= :="}, {"/=", "/ ="}, {"*//", "*"}, {"/ /(", "/ / ("},
	} {
		var want []api.Word
		for _, s := range strings.Fields(x.apart) {
			want = append(want, sign(s))
		}
		mustTell(t, x.s, want...)
	}
	for _, s := range []string{"&", "|", ":", "&|", "|&", "& &", "| |", ": =", "&&&", "|||", "::=", ":", "=:", ":=:", "a&b", "a|b", "a:b", "^", "~", "?", "[", "]", "@", "#", "$", "\\"} {
		mustRefuse(t, s, api.ErrSyntax)
	}
}

func TestP802EachByte(t *testing.T) {
	for c := range 256 {
		b := string([]byte{byte(c)})
		for _, s := range []string{b, "a " + b, b + b, "a" + b + "a", b + "1", "1" + b, "=" + b, b + "=", "(" + b + ")", "\n" + b + "\n", `"` + b + `"`, "//" + b, "//" + b + "a", "a//" + b + "("} {
			want, no := wantWords(s)
			if l, e := Words(s); e != no || !alike(l, want) {
				t.Errorf("%q: %v %v, want %v %v", s, l, e, want, no)
			}
		}
	}
	for _, s := range []string{"é", "aé", "１", "ａ", "\u00a0", "a\u2028b", "\ufeffa", "\ufffd", "\v", "\f", "\x85", "\x00", "\x7f"} {
		mustRefuse(t, s, api.ErrSyntax)
	}
}

func TestP802LeftOut(t *testing.T) {
	mustTell(t, " \t\r a \t\r b \t\r ", name("a"), name("b"), sign(";"))
	mustTell(t, "//")
	mustTell(t, "// a b \" & 00")
	mustTell(t, "//\n//\n \n")
	mustTell(t, "a // b", name("a"), sign(";"))
	mustTell(t, "a// b\nc", name("a"), sign(";"), name("c"), sign(";"))
	mustTell(t, "a ///**/\n+ // &\nc", name("a"), sign(";"), sign("+"), name("c"), sign(";"))
	mustTell(t, "( // \xff\x00é\r a\n)", sign("("), sign(")"), sign(";"))
	mustTell(t, "a//\rb\r\nc", name("a"), sign(";"), name("c"), sign(";"))
	mustTell(t, "a /* b */", name("a"), sign("/"), sign("*"), name("b"), sign("*"), sign("/"))
}

func TestP802LineEnds(t *testing.T) {
	for _, w := range lastWords {
		s := Show(w)
		for _, end := range []string{"", "\n", "\n\n", " ", "\r\n", " \t// c", "//\n", "\n//\n\r\n"} {
			mustTell(t, s+end, w, sign(";"))
			mustTell(t, "("+s+end, sign("("), w, sign(";"))
		}
		mustTell(t, s+"\n"+s, w, sign(";"), w, sign(";"))
		mustTell(t, s+" // c\n+", w, sign(";"), sign("+"))
		mustTell(t, s+";\n;\n", w, sign(";"), sign(";"))
		mustTell(t, s+" +\n+", w, sign("+"), sign("+"))
	}
	for _, w := range otherWords() {
		s := Show(w)
		for _, end := range []string{"", "\n", "\n\n", "\r\n", " // c\n", "\n// c"} {
			mustTell(t, s+end, w)
			mustTell(t, "x "+s+end, name("x"), w)
		}
	}
	mustTell(t, "\n\n")
	mustTell(t, "\nx", name("x"), sign(";"))
}

// otherWords are all keys and signs behind which a line's end stands for nothing.
func otherWords() []api.Word {
	var l []api.Word
	for _, k := range keys {
		l = append(l, key(k))
	}
	for _, s := range allSigns {
		l = append(l, sign(s))
	}
	return slices.DeleteFunc(l, func(w api.Word) bool { return slices.Contains(lastWords, w) })
}

func TestP802TooLong(t *testing.T) {
	for _, c := range []byte{' ', '\n', '\r', '/'} {
		mustTell(t, many(c, 4096))
		mustRefuse(t, many(c, 4097), api.ErrLarge)
	}
	mustTell(t, "x"+many(' ', 4095), name("x"), sign(";"))
	mustTell(t, many(' ', 4095)+"x", name("x"), sign(";"))
	// The length is asked first, whatever stands there.
	mustRefuse(t, "&"+many(' ', 4095), api.ErrSyntax)
	mustRefuse(t, "&"+many(' ', 4096), api.ErrLarge)
	mustRefuse(t, "00"+many(' ', 4095), api.ErrLarge)
	mustRefuse(t, many(0xff, 4096), api.ErrSyntax)
	mustRefuse(t, many(0xff, 4097), api.ErrLarge)
	// It is counted in bytes.
	mustRefuse(t, "//"+strings.Repeat("é", 2047)+"x", api.ErrLarge)
	mustTell(t, "//"+strings.Repeat("é", 2047))
}

func TestP802TooMany(t *testing.T) {
	for _, x := range []struct {
		s string
		n int
	}{
		{many('(', 2048), 2048}, {many('(', 2049), 0}, {many('(', 4096), 0}, {many('(', 2048) + many(' ', 2048), 2048},
		{strings.Repeat("+ ", 2048), 2048}, {strings.Repeat("x ", 2047), 2048}, {strings.Repeat("x ", 2048), 0}, {strings.Repeat("x;", 1024), 2048}, {strings.Repeat("x;", 1024) + "+", 0},
		// The signs that line ends stand for count.
		{strings.Repeat("x\n", 1024), 2048}, {strings.Repeat("x\n", 1024) + "(", 0}, {strings.Repeat("x\n", 1025), 0}, {many('(', 2047) + "\n)", 0}, {many('(', 2046) + ")", 2048}, {many('(', 2048) + "\n//x\n", 2048},
	} {
		l, e := Words(x.s)
		if x.n > 0 && (e != api.OK || len(l) != x.n) || x.n == 0 && (e != api.ErrLarge || len(l) != 0) {
			t.Errorf("%.10q of %d: %d %v, want %d", x.s, len(x.s), len(l), e, x.n)
		}
	}
}

func TestP802FirstWord(t *testing.T) {
	large := []string{many('a', 17), "9223372036854775808", many('1', 20)}
	syntax := []string{"00", "01", `""`, `"1"`, "&", "\xff", "[", `"` + many('a', 17) + `"`}
	for _, a := range large {
		for _, b := range syntax {
			mustRefuse(t, a+" "+b, api.ErrLarge)
			mustRefuse(t, b+" "+a, api.ErrSyntax)
			mustRefuse(t, "x = "+a+"\n"+b, api.ErrLarge)
			mustRefuse(t, "x = "+b+"\n"+a, api.ErrSyntax)
		}
	}
	mustRefuse(t, `"`+many('a', 17), api.ErrSyntax)
	// A word that can't be is told ahead of too many, wherever it stands.
	for _, b := range syntax {
		mustRefuse(t, many('(', 3000)+b, api.ErrSyntax)
		mustRefuse(t, many('(', 2048)+b, api.ErrSyntax)
		mustRefuse(t, b+many('(', 3000), api.ErrSyntax)
	}
	mustRefuse(t, many('(', 3000)+`"x`, api.ErrSyntax)
}

func TestP802AsPatterns(t *testing.T) {
	told := map[api.Errno]int{}
	for _, s := range slices.Concat(texts(20000, 12), texts(3000, 60), texts(60, 1200)) {
		want, no := wantWords(s)
		l, e := Words(s)
		if e != no || !alike(l, want) {
			t.Errorf("%q: %v %v, want %v %v", s, l, e, want, no)
		}
		told[e]++
	}
	if len(told) != 3 || told[api.OK] < 1000 || told[api.ErrLarge] < 1000 || told[api.ErrSyntax] < 1000 {
		t.Error("too few of one answer", told)
	}
}

func TestP803Show(t *testing.T) {
	for _, x := range []struct {
		w api.Word
		s string
	}{
		{name("x"), "x"}, {name("_A9"), "_A9"}, {key("for"), "for"}, {text("q"), `"q"`}, {text("if"), `"if"`}, {number(0), "0"}, {number(7), "7"}, {number(120), "120"}, {number(math.MaxInt64), "9223372036854775807"},
		{number(-1), ""}, {number(math.MinInt64), ""}, {api.Word{}, ""}, {api.Word{Kind: api.WordEnd, S: "x", N: 7}, ""},
		{api.Word{Kind: -1, S: "x", N: 7}, ""}, {api.Word{Kind: 6, S: "x", N: 7}, ""}, {api.Word{Kind: math.MinInt, S: "x"}, ""}, {api.Word{Kind: 256 + api.WordName, S: "x"}, ""},
		// A field that is not the kind's own is not asked.
		{api.Word{Kind: api.WordName, S: "x", N: 7}, "x"}, {api.Word{Kind: api.WordNum, S: "x", N: 7}, "7"},
	} {
		if s := Show(x.w); s != x.s {
			t.Errorf("%v: %q, want %q", x.w, s, x.s)
		}
	}
	for _, s := range allSigns {
		if Show(sign(s)) != s {
			t.Error(s, Show(sign(s)))
		}
	}
	for _, k := range keys {
		if Show(key(k)) != k {
			t.Error(k, Show(key(k)))
		}
	}
}

func TestP803Key(t *testing.T) {
	for _, k := range keys {
		if !Key(k) || Name(k) {
			t.Error(k)
		}
		for _, s := range []string{k + "x", k + " ", " " + k, strings.ToUpper(k), k[:len(k)-1], k[1:], k + k, k + "\x00"} {
			if Key(s) {
				t.Errorf("%q", s)
			}
		}
	}
	for _, s := range []string{"", "x", "main", "var", "type", "string", "nil", "1", ";", "Return"} {
		if Key(s) {
			t.Errorf("%q", s)
		}
	}
}

func TestP803Name(t *testing.T) {
	for _, s := range []string{"a", "z", "A", "Z", "_", "_1", "x0", "a_b", "If", "forx", "int64", "main", many('a', 16), many('_', 16), "a" + many('0', 15)} {
		if !Name(s) {
			t.Errorf("%q is none", s)
		}
	}
	for _, s := range []string{"", "0", "1a", "9_", " ", " a", "a ", "a b", "a-b", "a.b", "a\n", "é", "aé", "a\xff", "\xff", "ａ", "a１", `"a"`, "(", many('a', 17), "a" + many('0', 16), many('a', 1<<20), "a\x00"} {
		if Name(s) {
			t.Errorf("%.40q is one", s)
		}
	}
	for c := range 256 {
		b := string([]byte{byte(c)})
		letter := c == '_' || c >= 'a' && c <= 'z' || c >= 'A' && c <= 'Z'
		digit := c >= '0' && c <= '9'
		if Name(b) != letter || Name("a"+b) != (letter || digit) || Name("a"+b+"a") != (letter || digit) || Name(b+"a") != letter {
			t.Errorf("%q", b)
		}
	}
}

func TestP803Upper(t *testing.T) {
	for c := range 256 {
		b := string([]byte{byte(c)})
		great := c >= 'A' && c <= 'Z'
		if Upper(b) != great || Upper(b+"A") != great || Upper(b+" \xff") != great {
			t.Errorf("%q", b)
		}
	}
	for _, s := range []string{"", "aA", "_A", " A", "É", "Ａ", "Ω"} {
		if Upper(s) {
			t.Errorf("%q", s)
		}
	}
}

// shown is what Show tells of words, with a blank between each two.
func shown(l []api.Word) string {
	var s []string
	for _, w := range l {
		s = append(s, Show(w))
	}
	return strings.Join(s, " ")
}

// withoutEnd tells words without the last one, if that is the sign ;
func withoutEnd(l []api.Word) []api.Word {
	if n := len(l); n > 0 && l[n-1] == sign(";") {
		return l[:n-1]
	}
	return l
}

func TestP804ReadAsShown(t *testing.T) {
	words := slices.Concat(lastWords, otherWords(), []api.Word{name(many('a', 16)), number(10), text("_9")})
	for _, a := range words {
		for _, b := range words {
			for _, l := range [][]api.Word{{a}, {a, b}, {a, b, a}} {
				if got, e := Words(shown(l)); e != api.OK || !alike(withoutEnd(got), withoutEnd(l)) || len(got) < len(l) || len(got) > len(l)+1 {
					t.Errorf("%v: %v %v", l, got, e)
				}
			}
		}
	}
	r := rand.New(rand.NewSource(4))
	for range 500 {
		var l []api.Word
		for range r.Intn(200) {
			l = append(l, words[r.Intn(len(words))])
		}
		if s := shown(l); len(s) <= 4096 {
			if got, e := Words(s); e != api.OK || !alike(withoutEnd(got), withoutEnd(l)) {
				t.Errorf("%v: %v %v", l, got, e)
			}
		}
	}
}

func TestP804ShownAsRead(t *testing.T) {
	read := 0
	for _, s := range texts(5000, 30) {
		l, e := Words(s)
		if e != api.OK {
			continue
		}
		again := shown(l)
		if len(again) > 4096 {
			continue
		}
		read++
		if m, e := Words(again); e != api.OK || !alike(m, l) {
			t.Errorf("%q: %v, then %q: %v %v", s, l, again, m, e)
		}
	}
	if read < 1000 {
		t.Error("too few were read:", read)
	}
}
