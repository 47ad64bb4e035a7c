package parse

import (
	"math/rand"
	"regexp"
	"slices"
	"strings"
	"sync"

	"treadmill/api"
)

// grammar is the document's, word for word.
const grammar = `
    File   = "package" word ";" { "import" text ";" } { Func ";" } end
    Func   = "func" name "(" [ Param { "," Param } ] ")" [ Type ] Block
    Param  = name Type
    Type   = "int" | "bool"
    Block  = "{" [ Stmt { ";" Stmt } [ ";" ] ] "}"
    Stmt   = If | "for" [ Expr ] Block | "return" [ Expr ] | "print" "(" Expr ")" | "break" | "continue" | name ":=" Expr | name "=" Expr | Call
    If     = "if" Expr Block [ "else" ( If | Block ) ]
    Expr   = And { "||" And }
    And    = Rel { "&&" Rel }
    Rel    = Sum { ( "==" | "!=" | "<" | "<=" | ">" | ">=" ) Sum }
    Sum    = Term { ( "+" | "-" ) Term }
    Term   = Unary { ( "*" | "/" | "%" ) Unary }
    Unary  = ( "-" | "!" ) Unary | number | "true" | "false" | "(" Expr ")" | Call | name
    Call   = name [ "." name ] "(" [ Expr { "," Expr } ] ")"
    Alone  = Expr ";" end
`

// part of the grammar: of a kind "|", " " (one behind the other), "{", "[", or a word by itself, of kind "".
type part struct {
	kind string
	word string
	in   []part
}

// read tells the grammar, read once.
var read = sync.OnceValue(rules)

// rules reads the grammar.
func rules() map[string]part {
	all := map[string]part{}
	for line := range strings.Lines(grammar) {
		words := strings.Fields(line)
		if len(words) > 0 {
			all[words[0]], _ = either(words[2:])
		}
	}
	return all
}

func either(words []string) (part, []string) {
	p := part{kind: "|"}
	for {
		var row part
		row, words = inRow(words)
		p.in = append(p.in, row)
		if len(words) == 0 || words[0] != "|" {
			return p, words
		}
		words = words[1:]
	}
}

func inRow(words []string) (part, []string) {
	p := part{kind: " "}
	for len(words) > 0 && !strings.Contains("|)]}", words[0]) {
		one := part{word: words[0]}
		words = words[1:]
		if strings.Contains("([{", one.word) {
			inner, left := either(words)
			one = part{kind: one.word, in: []part{inner}}
			words = left[1:]
		}
		p.in = append(p.in, one)
	}
	return p, words
}

// leads tells whether the grammar leads from a rule to words.
func leads(rule string, words []api.Word) bool {
	m := &matcher{read(), words, map[place][]int{}}
	return len(m.behind(part{word: rule}, 0)) > 0
}

// matcher tells all places to which a part of the grammar may come from one.
type matcher struct {
	rules map[string]part
	words []api.Word
	known map[place][]int
}

// place of a rule in words.
type place struct {
	rule string
	at   int
}

func (m *matcher) behind(p part, at int) []int {
	switch p.kind {
	case "|", "(":
		var l []int
		for _, q := range p.in {
			l = append(l, m.behind(q, at)...)
		}
		return once(l)
	case " ":
		l := []int{at}
		for _, q := range p.in {
			l = m.behindAll(q, l)
		}
		return l
	case "[":
		return once(append(m.behind(p.in[0], at), at))
	case "{":
		l := []int{at}
		for {
			n := len(l)
			l = once(append(m.behindAll(p.in[0], l), l...))
			if len(l) == n {
				return l
			}
		}
	}
	return m.behindWord(p.word, at)
}

func (m *matcher) behindAll(p part, from []int) []int {
	var l []int
	for _, at := range from {
		l = append(l, m.behind(p, at)...)
	}
	return once(l)
}

func (m *matcher) behindWord(word string, at int) []int {
	if q, ok := m.rules[word]; ok {
		key := place{word, at}
		if _, ok := m.known[key]; !ok {
			m.known[key] = m.behind(q, at)
		}
		return slices.Clone(m.known[key])
	}
	if word == "end" {
		if at == len(m.words) {
			return []int{at}
		}
		return nil
	}
	if at < len(m.words) && fitting(word, m.words[at]) {
		return []int{at + 1}
	}
	return nil
}

func fitting(word string, w api.Word) bool {
	switch word {
	case "word":
		return w.Kind == api.WordName || w.Kind == api.WordKey
	case "name":
		return w.Kind == api.WordName
	case "text":
		return w.Kind == api.WordText
	case "number":
		return w.Kind == api.WordNum
	}
	return (w.Kind == api.WordKey || w.Kind == api.WordSign) && word == `"`+w.S+`"`
}

func once(l []int) []int {
	slices.Sort(l)
	return slices.Compact(l)
}

// maker makes words to which the grammar leads.
type maker struct {
	*rand.Rand
	rules map[string]part
	deep  int
}

func newMaker(seed int64) *maker {
	return &maker{rand.New(rand.NewSource(seed)), read(), 0}
}

// of tells words of a rule, as texts.
func (m *maker) of(rule string) []string {
	return m.make(part{word: rule})
}

func (m *maker) make(p part) []string {
	m.deep++
	defer func() { m.deep-- }()
	switch p.kind {
	case "|", "(":
		return m.make(p.in[m.choice(p)])
	case " ":
		var l []string
		for _, q := range p.in {
			l = append(l, m.make(q)...)
		}
		return l
	case "[":
		return m.times(p.in[0], m.Intn(2))
	case "{":
		// Rows within rows would grow without end.
		if m.deep > 20 {
			return m.times(p.in[0], m.Intn(4)/3)
		}
		return m.times(p.in[0], m.Intn(3))
	}
	return m.word(p.word)
}

// choice takes one that ends soon, where too much is open.
func (m *maker) choice(p part) int {
	if len(p.in) == 7 && m.deep > 60 {
		return []int{1, 2, 3, 6}[m.Intn(4)]
	}
	if len(p.in) == 9 && m.deep > 60 {
		return []int{4, 5}[m.Intn(2)]
	}
	return m.Intn(len(p.in))
}

func (m *maker) times(p part, n int) []string {
	if m.deep > 60 {
		return nil
	}
	var l []string
	for range n {
		l = append(l, m.make(p)...)
	}
	return l
}

func (m *maker) word(s string) []string {
	switch s {
	case "name", "word":
		return []string{m.pick("a", "b", "F", "_", "x1", "abcdefghijklmnop")}
	case "text":
		return []string{m.pick(`"a"`, `"Q"`, `"if"`, `"int"`)}
	case "number":
		return []string{m.pick("0", "1", "27", "9223372036854775807")}
	case "end":
		return nil
	}
	if _, ok := m.rules[s]; ok {
		return m.make(m.rules[s])
	}
	return []string{strings.Trim(s, `"`)}
}

func (m *maker) pick(l ...string) string {
	return l[m.Intn(len(l))]
}

var literals = sync.OnceValue(func() []string { return regexp.MustCompile(`"\S+"`).FindAllString(grammar, -1) })

// any tells a word of any kind.
func (m *maker) any() string {
	l := literals()
	i := m.Intn(len(l) + 6)
	if i < len(l) {
		return strings.Trim(l[i], `"`)
	}
	return m.word([]string{"name", "text", "number"}[i%3])[0]
}

// spoil changes some words.
func (m *maker) spoil(words []string) []string {
	l := slices.Clone(words)
	for range 1 + m.Intn(2) {
		if len(l) == 0 {
			return []string{m.any()}
		}
		at := m.Intn(len(l))
		switch m.Intn(4) {
		case 0:
			l = slices.Delete(l, at, at+1)
		case 1:
			l = slices.Insert(l, at, m.any())
		case 2:
			l[at] = m.any()
		case 3:
			to := m.Intn(len(l))
			l[at], l[to] = l[to], l[at]
		}
	}
	return l
}
