package parse

import (
	"treadmill/api"
	"treadmill/lex"
)

// reader takes words from their front. From the first wrong one on it has none left, so that all reading ends.
type reader struct {
	left  []api.Word
	wrong bool
	// large is told only of words that are right to their end.
	large bool
}

// next tells the next word, which stays; one that is none at the end.
func (r *reader) next() api.Word {
	if r.ended() {
		return api.Word{Kind: api.WordEnd}
	}
	return r.left[0]
}

func (r *reader) ended() bool {
	return len(r.left) == 0
}

// at tells whether a key or a sign is next.
func (r *reader) at(s string) bool {
	return is(r.next(), s)
}

// has takes a key or a sign, if it is next.
func (r *reader) has(s string) bool {
	if !r.at(s) {
		return false
	}
	r.left = r.left[1:]
	return true
}

// must takes a key or a sign: without it the words are wrong.
func (r *reader) must(s string) {
	if !r.has(s) {
		r.fail()
	}
}

// take takes a word of one of some kinds.
func (r *reader) take(kinds ...int) api.Word {
	w := r.next()
	for _, kind := range kinds {
		if w.Kind == kind {
			r.left = r.left[1:]
			return w
		}
	}
	r.fail()
	return api.Word{}
}

func (r *reader) name() string {
	return r.take(api.WordName).S
}

func (r *reader) fail() {
	r.wrong = true
	r.left = nil
}

// bound asks that there are at most so many of something.
func (r *reader) bound(n, most int) {
	if n > most {
		r.large = true
	}
}

// list reads a list in brackets, with commas between its parts.
func list[T any](r *reader, part func() T) []T {
	var l []T
	r.must("(")
	if r.has(")") {
		return l
	}
	l = append(l, part())
	for r.has(",") {
		l = append(l, part())
	}
	r.must(")")
	return l
}

// is tells whether a word is a key or a sign. A text can be just one of these, and a word of another kind is neither, whatever its letters.
func is(w api.Word, s string) bool {
	kind := api.WordSign
	if lex.Key(s) {
		kind = api.WordKey
	}
	return w.Kind == kind && w.S == s
}
