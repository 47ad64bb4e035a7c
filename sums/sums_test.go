package sums

import (
	"bytes"
	"hash/crc32"
	"hash/fnv"
	"math"
	"strings"
	"testing"

	"treadmill/api"
)

// row is bytes of a short rule, that are not alike and not in order.
func row(n int) []byte {
	b := make([]byte, n)
	for i := range b {
		b[i] = byte(i*i*7 + i>>3*13 + 5)
	}
	return b
}

// lists are bytes of many lengths, and of one value again and again.
func lists() [][]byte {
	l := [][]byte{nil, {}, []byte("a"), []byte("123456789"), []byte("the quick brown fox")}
	for n := range 70 {
		l = append(l, row(n), make([]byte, n), bytes.Repeat([]byte{0xff}, n))
	}
	for c := range 256 {
		l = append(l, []byte{byte(c)}, []byte{byte(c), 0}, []byte{0, byte(c)})
	}
	return append(l, row(4096), row(65536+3))
}

// sums32 are sums from which More goes on: edges, single bits, and sums of bytes.
func sums32() []uint32 {
	l := []uint32{0, 1, math.MaxUint32, math.MaxUint32 - 1, 0xedb88320, ^uint32(0xedb88320), 0xcbf43926}
	for i := range 32 {
		l = append(l, 1<<i, ^uint32(1<<i))
	}
	return l
}

// wantRest is the remainder of one bit behind another, as the document's words have it, by whole numbers.
func wantRest(rest uint64, bit uint64) uint64 {
	low := (rest%2 + bit) % 2
	rest = rest / 2
	if low == 1 {
		rest = rest ^ 0xedb88320
	}
	return rest
}

func wantMore(sum uint32, b []byte) uint32 {
	rest := uint64(math.MaxUint32 - sum)
	for _, x := range b {
		for y, n := uint64(x), 0; n < 8; y, n = y/2, n+1 {
			rest = wantRest(rest, y%2)
		}
	}
	return math.MaxUint32 - uint32(rest)
}

func TestP201PureFunctions(t *testing.T) {
	for _, b := range lists() {
		// What lies in the room behind is neither read nor changed.
		room := append(append([]byte(nil), b...), 1, 2, 3, 4, 5, 6, 7, 8)
		kept := append([]byte(nil), room...)
		in := room[:len(b)]
		crc, num, more := Crc(in), Fnv(in), More(7, in)
		if !bytes.Equal(room, kept) {
			t.Error("changed what was handed in", kept)
		}
		for i := len(b); i < len(room); i++ {
			room[i] ^= 0xff
		}
		for range 3 {
			if c, n, m := Crc(in), Fnv(in), More(7, in); c != crc || n != num || m != more {
				t.Error("another answer for the same bytes", len(b))
			}
			Crc(kept)
			Fnv(kept)
			More(9, kept)
		}
	}
}

func TestP201NilAndEmptyAreTheSame(t *testing.T) {
	for _, b := range [][]byte{nil, {}, make([]byte, 0, 64), row(9)[:0]} {
		if c := Crc(b); c != 0 {
			t.Errorf("Crc of nothing: %#x", c)
		}
		if n := Fnv(b); n != 14695981039346656037 {
			t.Errorf("Fnv of nothing: %d", n)
		}
		for _, s := range sums32() {
			if m := More(s, b); m != s {
				t.Errorf("More of %#x and nothing: %#x", s, m)
			}
		}
	}
}

func TestP202CrcNamed(t *testing.T) {
	for _, x := range []struct {
		s string
		n uint32
	}{
		{"", 0}, {"a", 0xe8b7be43}, {"abc", 0x352441c2}, {"123456789", 0xcbf43926}, {"message digest", 0x20159d7f},
		{"abcdefghijklmnopqrstuvwxyz", 0x4c2750bd}, {"The quick brown fox jumps over the lazy dog", 0x414fa339},
		{"\x00", 0xd202ef8d}, {"\x00\x00", 0x41d912ff}, {"\x00\x00\x00\x00", 0x2144df1c}, {"\xff", 0xff000000}, {"\xff\xff\xff\xff", 0xffffffff},
		{strings.Repeat("\x00", 32), 0x190a55ad}, {strings.Repeat("\xff", 32), 0xff6cab0b},
	} {
		if n := Crc([]byte(x.s)); n != x.n {
			t.Errorf("%q: %#x, want %#x", x.s, n, x.n)
		}
	}
}

func TestP202CrcAsTheWordsSay(t *testing.T) {
	for _, b := range lists() {
		if n, w, l := Crc(b), wantMore(0, b), crc32.ChecksumIEEE(b); n != w || n != l {
			t.Errorf("%d bytes: %#x, want %#x, the library's is %#x", len(b), n, w, l)
		}
	}
}

func TestP202CrcOfMany(t *testing.T) {
	b := row(api.MaxBytes)
	if n, w := Crc(b), crc32.ChecksumIEEE(b); n != w {
		t.Errorf("%#x, want %#x", n, w)
	}
}

func TestP202MoreAsTheWordsSay(t *testing.T) {
	for _, s := range sums32() {
		for n := range 20 {
			for _, b := range [][]byte{row(n), make([]byte, n), bytes.Repeat([]byte{0xff}, n)} {
				if m, w, l := More(s, b), wantMore(s, b), crc32.Update(s, crc32.IEEETable, b); m != w || m != l {
					t.Errorf("%#x and %d bytes: %#x, want %#x, the library's is %#x", s, n, m, w, l)
				}
			}
		}
	}
}

func TestP202FnvNamed(t *testing.T) {
	for _, x := range []struct {
		s string
		n uint64
	}{
		{"", 0xcbf29ce484222325}, {"a", 0xaf63dc4c8601ec8c}, {"b", 0xaf63df4c8601f1a5}, {"foobar", 0x85944171f73967e8},
		{"\x00", 0xaf63bd4c8601b7df}, {"hello", 0xa430d84680aabd0b},
	} {
		if n := Fnv([]byte(x.s)); n != x.n {
			t.Errorf("%q: %#x, want %#x", x.s, n, x.n)
		}
	}
}

func TestP202FnvAsTheWordsSay(t *testing.T) {
	for _, b := range append(lists(), row(api.MaxBytes)) {
		h := fnv.New64a()
		h.Write(b)
		if n, w := Fnv(b), h.Sum64(); n != w {
			t.Errorf("%d bytes: %#x, want %#x", len(b), n, w)
		}
	}
}

func TestP203SumOfTwoParts(t *testing.T) {
	for _, b := range [][]byte{nil, {0}, {0xff}, []byte("123456789"), row(3), row(64), row(129), make([]byte, 40)} {
		whole := Crc(b)
		for i := range len(b) + 1 {
			if n := More(Crc(b[:i]), b[i:]); n != whole {
				t.Errorf("%d bytes, cut at %d: %#x, want %#x", len(b), i, n, whole)
			}
			for k := range len(b) - i + 1 {
				if n := More(More(Crc(b[:i]), b[i:i+k]), b[i+k:]); n != whole {
					t.Errorf("%d bytes, cut at %d and %d: %#x, want %#x", len(b), i, i+k, n, whole)
				}
			}
		}
	}
}

func TestP203OneBitTurnsTheCrc(t *testing.T) {
	for _, b := range [][]byte{{0}, {0xff}, []byte("123456789"), row(64), row(300), make([]byte, 64)} {
		crc := Crc(b)
		seen := map[uint32]int{}
		for i := range len(b) * 8 {
			b[i/8] ^= 1 << (i % 8)
			n := Crc(b)
			b[i/8] ^= 1 << (i % 8)
			if n == crc {
				t.Errorf("%d bytes: bit %d turned nothing", len(b), i)
			}
			if k, was := seen[n]; was {
				t.Errorf("%d bytes: bits %d and %d turned alike", len(b), k, i)
			}
			seen[n] = i
		}
	}
	b := row(api.MaxBytes)
	crc := Crc(b)
	for _, i := range []int{0, 7, len(b) * 4, len(b)*8 - 8, len(b)*8 - 1} {
		b[i/8] ^= 1 << (i % 8)
		if Crc(b) == crc {
			t.Errorf("bit %d turned nothing", i)
		}
		b[i/8] ^= 1 << (i % 8)
	}
}
