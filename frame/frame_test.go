package frame

import (
	"bytes"
	"encoding/binary"
	"hash/crc32"
	"math"
	"slices"
	"strconv"
	"sync"
	"testing"

	"treadmill/api"
)

// nums are numbers that a mark may have.
var nums = []int64{0, 1, 2, 255, 256, 65535, 65536, 1<<32 - 1, 1 << 32, 0x0102030405060708, math.MaxInt64 - 1, math.MaxInt64}

// kinds are those that a mark may have.
var kinds = []int{1, 2, 3, 127, 128, 254, 255}

// row is bytes of a short rule, that are not alike and not in order, and none of them 0.
func row(n int) []byte {
	b := make([]byte, n)
	for i := range b {
		b[i] = byte(i*i*7+i>>3*13+5) | 1
	}
	return b
}

// plainHalf is a half of whatever numbers, by the library, with the sum that is right.
func plainHalf(first string, kind uint16, gen, seq, n int64) []byte {
	b := binary.LittleEndian.AppendUint16([]byte(first), kind)
	for _, x := range []int64{gen, seq, n} {
		b = binary.LittleEndian.AppendUint64(b, uint64(x))
	}
	return binary.LittleEndian.AppendUint32(b, crc32.ChecksumIEEE(b))
}

// plainSector is a mark's sector, by the library.
func plainSector(m Mark) []byte {
	return bytes.Repeat(plainHalf("TM", uint16(m.Kind), m.Gen, m.Seq, m.N), 2)
}

// marks are many, each another one.
func marks() []Mark {
	var l []Mark
	for _, k := range kinds {
		l = append(l, Mark{Kind: k})
	}
	for _, n := range nums[1:] {
		l = append(l, Mark{1, n, 0, 0}, Mark{1, 0, n, 0}, Mark{2, 0, 0, n}, Mark{255, n, n, n}, Mark{7, n, n - 1, n / 3})
	}
	return append(l, Mark{1, 2, 3, 4})
}

// noMarks are wrong in one thing each, or in all.
func noMarks() []Mark {
	var l []Mark
	for _, k := range []int{0, -1, -255, 256, 257, 65535, 65536, 65537, 1<<32 + 1, math.MinInt, math.MinInt + 1, math.MaxInt} {
		l = append(l, Mark{k, 1, 2, 3})
	}
	for _, n := range []int64{-1, -2, -256, math.MinInt64, math.MinInt64 + 1} {
		l = append(l, Mark{1, n, 0, 0}, Mark{1, 0, n, 0}, Mark{1, 0, 0, n}, Mark{0, n, n, n})
	}
	return append(l, Mark{})
}

func wantMark(t *testing.T, b []byte, want Mark) {
	t.Helper()
	if m, ok := Get(b); !ok || m != want {
		t.Errorf("Get(%v) = %v, %v, want %v", b, m, ok, want)
	}
}

func wantNone(t *testing.T, what string, b []byte) {
	t.Helper()
	if m, ok := Get(b); ok || m != (Mark{}) {
		t.Errorf("%s: Get(%v) = %v, %v", what, b, m, ok)
	}
}

func wantNoBytes(t *testing.T, what string, l [][]byte, n int) {
	t.Helper()
	if b, ok := Unpack(l, n); ok || len(b) != 0 {
		t.Errorf("%s: Unpack of %d sectors, %d bytes = %d bytes, %v", what, len(l), n, len(b), ok)
	}
}

// isTight tells whether bytes have no room behind them.
func isTight(b []byte) bool {
	return cap(b) == len(b)
}

func TestP501WhatIsHandedInIsNotChanged(t *testing.T) {
	room := row(400)
	was := bytes.Clone(room)
	l := Pack(room[:130])
	Get(room[:64])
	copy(room, Put(Mark{1, 2, 3, 4}))
	copy(was, room)
	Get(room[:64])
	if !bytes.Equal(room, was) {
		t.Error("Pack or Get changed what was handed in")
	}
	kept := make([][]byte, len(l))
	for i, s := range l {
		kept[i] = bytes.Clone(s)
	}
	extra := append(slices.Clone(l), row(64))
	if b, ok := Unpack(extra[:3], 130); !ok || len(b) != 130 {
		t.Error(len(b), ok)
	}
	if !slices.EqualFunc(l, kept, bytes.Equal) || !slices.EqualFunc(extra[:3], kept, bytes.Equal) || !bytes.Equal(extra[3], row(64)) {
		t.Error("Unpack changed what was handed in")
	}
}

func TestP501WhatIsToldSharesNothing(t *testing.T) {
	in := row(150)
	l, again := Pack(in), Pack(in)
	fill := func(b []byte) {
		b = b[:cap(b)]
		for i := range b {
			b[i] ^= 0xff
		}
	}
	for i := range l {
		others := [][]byte{bytes.Clone(in)}
		for k := range l {
			if k != i {
				others = append(others, bytes.Clone(l[k]))
			}
		}
		fill(l[i])
		now := [][]byte{in}
		for k := range l {
			if k != i {
				now = append(now, l[k])
			}
		}
		if !slices.EqualFunc(others, now, bytes.Equal) {
			t.Errorf("sector %d shares something", i)
		}
		fill(l[i])
	}
	for i := range l {
		fill(l[i])
	}
	if b, ok := Unpack(again, 150); !ok || !bytes.Equal(b, in) {
		t.Error("two answers of Pack share something")
	}
	one, _ := Unpack(again, 150)
	two, _ := Unpack(again, 150)
	fill(one)
	if !bytes.Equal(two, in) {
		t.Error("two answers of Unpack share something")
	}
	if b, ok := Unpack(again, 150); !ok || !bytes.Equal(b, in) {
		t.Error("Unpack shares something with its sectors")
	}
	m := Mark{1, 2, 3, 4}
	p := Put(m)
	fill(p)
	wantMark(t, Put(m), m)
}

func TestP501WhatIsToldHasNoRoomBehind(t *testing.T) {
	if !isTight(Put(Mark{1, 2, 3, 4})) {
		t.Error("Put: room behind")
	}
	for _, n := range []int{0, 1, 5, 63, 64, 65, 100, 128, 129, 1000} {
		l := Pack(row(n))
		for i, s := range l {
			if !isTight(s) {
				t.Errorf("Pack of %d bytes: room behind sector %d", n, i)
			}
		}
		if b, ok := Unpack(l, n); !ok || !isTight(b) {
			t.Errorf("Unpack of %d bytes: %v, %d of %d", n, ok, len(b), cap(b))
		}
	}
}

func TestP501CallsAtOnce(t *testing.T) {
	in := row(700)
	var all sync.WaitGroup
	for i := range 8 {
		all.Add(1)
		go func() {
			defer all.Done()
			for k := range 50 {
				m := Mark{1 + i, int64(k), 0, 9}
				wantMark(t, Put(m), m)
				if b, ok := Unpack(Pack(in[i:]), 700-i); !ok || !bytes.Equal(b, in[i:]) {
					t.Error(i, ok)
				}
			}
		}()
	}
	all.Wait()
}

func TestP502Example(t *testing.T) {
	b := Put(Mark{Kind: 1, Gen: 2, Seq: 3, N: 4})
	if len(b) != 64 || !bytes.Equal(b[:6], []byte{'T', 'M', 1, 0, 2, 0}) {
		t.Fatal(b)
	}
	want := []byte{
		'T', 'M', 1, 0,
		2, 0, 0, 0, 0, 0, 0, 0,
		3, 0, 0, 0, 0, 0, 0, 0,
		4, 0, 0, 0, 0, 0, 0, 0,
	}
	if !bytes.Equal(b[:28], want) || !bytes.Equal(b[32:60], want) || !bytes.Equal(b[:32], b[32:]) {
		t.Error(b)
	}
	if sum := binary.LittleEndian.Uint32(b[28:]); sum != crc32.ChecksumIEEE(want) {
		t.Errorf("the sum is %x", sum)
	}
}

func TestP502PutAndGet(t *testing.T) {
	seen := map[string]bool{}
	for _, m := range marks() {
		b := Put(m)
		if !bytes.Equal(b, plainSector(m)) {
			t.Errorf("Put(%v) = %v, want %v", m, b, plainSector(m))
		}
		wantMark(t, b, m)
		wantMark(t, plainSector(m), m)
		if seen[string(b)] {
			t.Errorf("%v: another one has its sector", m)
		}
		seen[string(b)] = true
	}
	for k := 1; k <= 255; k++ {
		wantMark(t, Put(Mark{k, 5, 6, 7}), Mark{k, 5, 6, 7})
	}
}

func TestP502PutOfNoMark(t *testing.T) {
	for _, m := range noMarks() {
		if b := Put(m); len(b) != 0 {
			t.Errorf("Put(%v) = %v", m, b)
		}
	}
}

func TestP502GetOfNoMark(t *testing.T) {
	for _, m := range noMarks() {
		// Letters, sum and halves are right; only what they hold is no mark's.
		if k := m.Kind; k >= 0 && k <= math.MaxUint16 {
			wantNone(t, "a sector of no mark", plainSector(m))
		}
	}
	for k := 256; k <= math.MaxUint16; k += 255 {
		wantNone(t, "a kind that is too great", plainSector(Mark{Kind: k}))
	}
	for _, first := range []string{"MT", "tm", "TT", "MM", "\x00\x00", "Tm", "tM", "\xff\xff"} {
		wantNone(t, "letters "+strconv.Quote(first), bytes.Repeat(plainHalf(first, 1, 2, 3, 4), 2))
	}
}

func TestP502GetOfOtherLengths(t *testing.T) {
	wantNone(t, "nil", nil)
	wantNone(t, "empty", []byte{})
	b := Put(Mark{1, 2, 3, 4})
	h := b[:32:32]
	for n := range 64 {
		wantNone(t, "cut", b[:n])
	}
	wantMark(t, b[:64], Mark{1, 2, 3, 4})
	wantNone(t, "a byte of 0 behind", append(bytes.Clone(b), 0))
	wantNone(t, "a half behind", bytes.Repeat(h, 3))
	wantNone(t, "twice", bytes.Repeat(h, 4))
	wantNone(t, "moved", append([]byte{0}, b[:63]...))
}

func TestP502GetOfAnyBitTurned(t *testing.T) {
	for _, m := range []Mark{{1, 2, 3, 4}, {2, 0, 0, 0}, {255, math.MaxInt64, math.MaxInt64, math.MaxInt64}} {
		for i := range 64 * 8 {
			b := Put(m)
			b[i/8] ^= 1 << (i % 8)
			wantNone(t, "bit "+strconv.Itoa(i), b)
			// The same in both halves: the sum alone tells it.
			b = Put(m)
			b[i/8%32] ^= 1 << (i % 8)
			b[i/8%32+32] ^= 1 << (i % 8)
			wantNone(t, "bit "+strconv.Itoa(i)+" of both halves", b)
		}
	}
}

func TestP502GetOfOtherBytes(t *testing.T) {
	for x := range 256 {
		wantNone(t, "all alike", bytes.Repeat([]byte{byte(x)}, 64))
	}
	for n := range 100 {
		wantNone(t, "a row", row(64 + n)[n:])
	}
	m := Mark{1, 2, 3, 4}
	swapped := Put(m)
	for _, at := range []int{28, 60} {
		slices.Reverse(swapped[at : at+4])
	}
	wantNone(t, "a sum whose highest byte is first", swapped)
	turned := Put(m)
	for _, at := range []int{28, 29, 30, 31, 60, 61, 62, 63} {
		turned[at] ^= 0xff
	}
	wantNone(t, "a sum with all bits turned", turned)
}

func TestP503Need(t *testing.T) {
	for n, want := range map[int]int{
		math.MinInt: 0, math.MinInt + 1: 0, -65: 0, -64: 0, -1: 0, 0: 0,
		1: 1, 2: 1, 63: 1, 64: 1, 65: 2, 127: 2, 128: 2, 129: 3,
		api.MaxBytes - 1: 16384, api.MaxBytes: 16384, api.MaxBytes + 1: 16385,
		math.MaxInt: 1 << 57, math.MaxInt - 62: 1 << 57, math.MaxInt - 63: 1<<57 - 1, math.MaxInt - 64: 1<<57 - 1,
	} {
		if got := Need(n); got != want {
			t.Errorf("Need(%d) = %d, want %d", n, got, want)
		}
	}
	for n := range 1000 {
		want := n / 64
		if n%64 != 0 {
			want++
		}
		if got := Need(n); got != want {
			t.Errorf("Need(%d) = %d, want %d", n, got, want)
		}
	}
}

func TestP503PackAndUnpack(t *testing.T) {
	lengths := []int{0, 1000, 4096, 65535, 65536, 65537, api.MaxBytes - 64, api.MaxBytes - 63, api.MaxBytes - 1, api.MaxBytes}
	for n := 1; n < 260; n++ {
		lengths = append(lengths, n)
	}
	for _, n := range lengths {
		in := row(n)
		l := Pack(in)
		if len(l) != Need(n) {
			t.Fatalf("Pack of %d bytes: %d sectors, want %d", n, len(l), Need(n))
		}
		for i, s := range l {
			want := make([]byte, 64)
			copy(want, in[i*64:])
			if !bytes.Equal(s, want) {
				t.Errorf("Pack of %d bytes: sector %d is %v, want %v", n, i, s, want)
			}
		}
		if b, ok := Unpack(l, n); !ok || !bytes.Equal(b, in) {
			t.Errorf("Unpack of %d bytes: %d bytes, %v", n, len(b), ok)
		}
	}
}

func TestP503PackOfNothing(t *testing.T) {
	for _, b := range [][]byte{nil, {}, row(9)[:0]} {
		if l := Pack(b); len(l) != 0 {
			t.Error(l)
		}
	}
	for _, l := range [][][]byte{nil, {}} {
		if b, ok := Unpack(l, 0); !ok || len(b) != 0 {
			t.Error(b, ok)
		}
	}
}

func TestP503PackOfTooMany(t *testing.T) {
	big := make([]byte, api.MaxBytes+65)
	for _, n := range []int{api.MaxBytes + 1, api.MaxBytes + 64, api.MaxBytes + 65} {
		if l := Pack(big[:n]); len(l) != 0 {
			t.Errorf("Pack of %d bytes: %d sectors", n, len(l))
		}
	}
}

func TestP503UnpackOfBytesOfZero(t *testing.T) {
	// Bytes of 0 are bytes as any others: n alone says how many there are.
	for _, n := range []int{1, 2, 63, 64} {
		if b, ok := Unpack([][]byte{make([]byte, 64)}, n); !ok || !bytes.Equal(b, make([]byte, n)) {
			t.Error(n, b, ok)
		}
	}
}

func TestP503UnpackOfWrongNumber(t *testing.T) {
	zero := func(n int) [][]byte {
		var l [][]byte
		for range n {
			l = append(l, make([]byte, 64))
		}
		return l
	}
	for _, n := range []int{math.MinInt, math.MinInt + 63, -65, -64, -63, -1} {
		wantNoBytes(t, "below 0", nil, n)
		wantNoBytes(t, "below 0", zero(1), n)
	}
	for sectors := range 5 {
		for n := range 64 * 6 {
			if Need(n) != sectors {
				wantNoBytes(t, "not just Need", zero(sectors), n)
			}
		}
	}
	most := zero(16386)
	for _, n := range []int{api.MaxBytes + 1, api.MaxBytes + 64, api.MaxBytes + 65, math.MaxInt, math.MaxInt - 63} {
		for sectors := 16383; sectors <= 16386; sectors++ {
			wantNoBytes(t, "too many", most[:sectors], n)
		}
		wantNoBytes(t, "too many", nil, n)
	}
	if b, ok := Unpack(most[:16384], api.MaxBytes); !ok || len(b) != api.MaxBytes {
		t.Error(len(b), ok)
	}
}

func TestP503UnpackOfWrongSectors(t *testing.T) {
	for _, size := range []int{0, 1, 63, 65, 128, 1 << 20} {
		for at := range 3 {
			l := [][]byte{make([]byte, 64), make([]byte, 64), make([]byte, 64)}
			l[at] = make([]byte, size)
			for _, n := range []int{129, 130, 191, 192} {
				wantNoBytes(t, "a sector of "+strconv.Itoa(size), l, n)
			}
		}
	}
	wantNoBytes(t, "a sector that is nil", [][]byte{nil}, 1)
	// Together they have as many bytes as they should.
	wantNoBytes(t, "sectors of 63 and 65 bytes", [][]byte{row(63), row(65)}, 128)
	wantNoBytes(t, "sectors of 128 and no bytes", [][]byte{row(128), {}}, 128)
	huge := make([]byte, 1<<24)
	var many [][]byte
	for range 16384 {
		many = append(many, huge)
	}
	wantNoBytes(t, "huge ones", many, api.MaxBytes)
}

func TestP503UnpackOfWhatIsBehind(t *testing.T) {
	for _, n := range []int{1, 2, 31, 32, 33, 62, 63, 65, 100, 127} {
		end := Need(n) * 64
		for at := n; at < end; at++ {
			for _, x := range []byte{1, 0x80, 0xff} {
				l := Pack(row(n))
				l[at/64][at%64] = x
				wantNoBytes(t, "behind", l, n)
				if b, ok := Unpack(l, end); !ok || b[at] != x {
					t.Errorf("not behind of %d bytes: %v", end, ok)
				}
			}
		}
	}
}

func TestP504Torn(t *testing.T) {
	zero := make([]byte, 64)
	all := marks()
	for _, m := range all {
		for _, o := range all {
			for _, b := range [][]byte{
				append(Put(m)[:32:32], Put(o)[32:]...),
				append(Put(m)[32:64:64], Put(o)[:32]...),
			} {
				if m == o {
					wantMark(t, b, m)
				} else {
					wantNone(t, "of two marks", b)
				}
			}
		}
		wantNone(t, "0 behind", append(Put(m)[:32:32], zero[32:]...))
		wantNone(t, "0 ahead", append(zero[:32:32], Put(m)[32:]...))
	}
	wantNone(t, "all 0", zero)
}
