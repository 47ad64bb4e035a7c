package cache

import "treadmill/codec"

// lengthBytes is how many bytes the length of a key takes, ahead of it.
const lengthBytes = 8

// Entry: a key and its value.
type Entry struct{ Key, Value string }

// Pack tells an entry as a group's bytes.
func Pack(e Entry) []byte {
	var w codec.Writer
	w.Num(int64(len(e.Key)))
	b := make([]byte, 0, e.size())
	b = append(b, w.Bytes()...)
	b = append(b, e.Key...)
	return append(b, e.Value...)
}

// Unpack tells the entry of which Pack makes these bytes.
func Unpack(b []byte) (Entry, bool) {
	if len(b) < lengthBytes {
		return Entry{}, false
	}
	n := codec.Read(b[:lengthBytes]).Num()
	text := b[lengthBytes:]
	if n < 0 || n > int64(len(text)) {
		return Entry{}, false
	}
	return Entry{string(text[:n]), string(text[n:])}, true
}

// size tells how many bytes an entry has as a group.
func (e Entry) size() int {
	return lengthBytes + len(e.Key) + len(e.Value)
}
