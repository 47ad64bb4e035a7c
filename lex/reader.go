package lex

import (
	"strings"

	"treadmill/api"
	"treadmill/num"
)

var signs = [...]string{"(", ")", "{", "}", ",", ";", ".", ":=", "=", "==", "!=", "<", "<=", ">", ">=", "+", "-", "*", "/", "%", "!", "&&", "||"}

// reader takes a text's words from its front.
type reader struct {
	left  string
	words []api.Word
}

// next reads one word, or what stands between words.
func (r *reader) next() api.Errno {
	switch c := rune(r.left[0]); {
	case c == '\n':
		r.take(1)
		r.endLine()
	case c == ' ' || c == '\t' || c == '\r':
		r.take(1)
	case strings.HasPrefix(r.left, "//"):
		// The line feed stays: it may stand for a sign.
		r.take(row(r.left, func(c rune) bool { return c != '\n' }))
	case digit(c):
		return r.number()
	case inName(c):
		return r.name()
	case strings.HasPrefix(r.left, quote):
		return r.text()
	default:
		return r.sign()
	}
	return api.OK
}

func (r *reader) number() api.Errno {
	s := r.take(row(r.left, digit))
	n, ok := num.Read(s)
	if ok {
		r.add(api.Word{Kind: api.WordNum, N: n})
		return api.OK
	}
	// A 0 by itself is read, so this one is needless.
	if s[0] == '0' {
		return api.ErrSyntax
	}
	return api.ErrLarge
}

func (r *reader) name() api.Errno {
	s := r.take(row(r.left, inName))
	if len(s) > api.MaxName {
		return api.ErrLarge
	}
	kind := api.WordName
	if Key(s) {
		kind = api.WordKey
	}
	r.add(api.Word{Kind: kind, S: s})
	return api.OK
}

func (r *reader) text() api.Errno {
	s, _, ok := strings.Cut(r.left[len(quote):], quote)
	if !ok || !Name(s) && !Key(s) {
		return api.ErrSyntax
	}
	r.take(len(quote) + len(s) + len(quote))
	r.add(api.Word{Kind: api.WordText, S: s})
	return api.OK
}

func (r *reader) sign() api.Errno {
	s := longest(func(sign string) bool { return strings.HasPrefix(r.left, sign) })
	if s == "" {
		return api.ErrSyntax
	}
	r.take(len(s))
	r.add(api.Word{Kind: api.WordSign, S: s})
	return api.OK
}

// endLine lays the sign ; that the end of a line, or of the text, stands for.
func (r *reader) endLine() {
	if n := len(r.words); n > 0 && mayEnd(r.words[n-1]) {
		r.add(api.Word{Kind: api.WordSign, S: ";"})
	}
}

// take takes n bytes off the front.
func (r *reader) take(n int) string {
	s := r.left[:n]
	r.left = r.left[n:]
	return s
}

// add lays a word behind the others. A piece of the text would share that one's memory, so it is copied.
func (r *reader) add(w api.Word) {
	w.S = strings.Clone(w.S)
	r.words = append(r.words, w)
}

// mayEnd tells whether a word may be a statement's last one.
func mayEnd(w api.Word) bool {
	switch w.Kind {
	case api.WordName, api.WordNum, api.WordText:
		return true
	}
	switch w.S {
	case ")", "}", "return", "break", "continue", "int", "bool", "true", "false":
		return true
	}
	return false
}

// longest tells the longest sign that fits; "", if none does.
func longest(fits func(sign string) bool) string {
	best := ""
	for _, s := range signs {
		if len(s) > len(best) && fits(s) {
			best = s
		}
	}
	return best
}

// row tells how many bytes at a text's beginning are of letters of a kind.
func row(text string, kind func(c rune) bool) int {
	for i, c := range text {
		if !kind(c) {
			return i
		}
	}
	return len(text)
}

func digit(c rune) bool {
	return c >= '0' && c <= '9'
}

func great(c rune) bool {
	return c >= 'A' && c <= 'Z'
}

// inName tells whether a letter may stand in a name.
func inName(c rune) bool {
	return c >= 'a' && c <= 'z' || great(c) || digit(c) || c == '_'
}
