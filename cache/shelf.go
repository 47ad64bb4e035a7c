package cache

import (
	"cmp"
	"slices"

	"treadmill/sums"
)

// shelf holds entries, each key once.
type shelf struct {
	// buckets are the entries by the sums of their keys. Keys with one sum share a bucket, and are held against each other there.
	buckets map[uint64][]numbered
	// last is the number of the newest entry.
	last int
}

// numbered: an entry, with a number that is greater than those of all older ones.
type numbered struct {
	Entry
	n int
}

func newShelf() shelf {
	return shelf{buckets: map[uint64][]numbered{}}
}

func sumOf(key string) uint64 {
	return sums.Fnv([]byte(key))
}

// find tells the entry with a key; false, if there is none.
func (s *shelf) find(key string) (Entry, bool) {
	for _, x := range s.buckets[sumOf(key)] {
		if x.Key == key {
			return x.Entry, true
		}
	}
	return Entry{}, false
}

// put lays an entry in, as the newest one; the older one with its key goes.
func (s *shelf) put(e Entry) {
	s.take(e.Key)
	s.last++
	sum := sumOf(e.Key)
	s.buckets[sum] = append(s.buckets[sum], numbered{e, s.last})
}

// take takes the entry with a key out, if there is one.
func (s *shelf) take(key string) {
	sum := sumOf(key)
	rest := slices.DeleteFunc(s.buckets[sum], func(x numbered) bool { return x.Key == key })
	if len(rest) == 0 {
		delete(s.buckets, sum)
		return
	}
	s.buckets[sum] = rest
}

// inOrder tells all entries, the oldest first.
func (s *shelf) inOrder() []Entry {
	var l []numbered
	for _, b := range s.buckets {
		l = append(l, b...)
	}
	slices.SortFunc(l, func(x, y numbered) int { return cmp.Compare(x.n, y.n) })
	entries := make([]Entry, len(l))
	for i, x := range l {
		entries[i] = x.Entry
	}
	return entries
}

// others tells the entries without that of a key, the oldest first.
func (s *shelf) others(key string) []Entry {
	return slices.DeleteFunc(s.inOrder(), func(e Entry) bool { return e.Key == key })
}
