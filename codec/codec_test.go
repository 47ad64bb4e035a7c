package codec

import (
	"bytes"
	"encoding/binary"
	"math"
	"strings"
	"testing"

	"treadmill/api"
)

const least, most = math.MinInt64, math.MaxInt64

var nums = []int64{0, 1, -1, 7, 255, 256, -256, 65535, 65536, 1 << 31, -1 << 31, 1 << 32, 0x0102030405060708, most - 1, most, least, least + 1}

// smalls are numbers, each with what it is cut to.
var smalls = [][2]int{
	{0, 0}, {1, 1}, {255, 255}, {256, 256}, {0x0102, 0x0102}, {65534, 65534}, {65535, 65535},
	{65536, 65535}, {65537, 65535}, {1 << 17, 65535}, {1 << 32, 65535}, {math.MaxInt, 65535},
	{-1, 0}, {-2, 0}, {-65535, 0}, {-65536, 0}, {-1 << 32, 0}, {math.MinInt, 0},
}

var texts = []string{"", "a", "ab", "\x00", "\xff\xfe", "ä", "a\nb", strings.Repeat("x", 255), strings.Repeat("y", 256), strings.Repeat("z", 65534), strings.Repeat("0", 65535)}

// row is bytes of a short rule, that are not alike and not in order.
func row(n int) []byte {
	b := make([]byte, n)
	for i := range b {
		b[i] = byte(i*i*7 + i>>3*13 + 5)
	}
	return b
}

// laidText is a text as its bytes, by the library.
func laidText(s string) []byte {
	return append(binary.LittleEndian.AppendUint16(nil, uint16(len(s))), s...)
}

// askAll asks a Reader for all that it tells, and answers whether all of it was 0, or empty.
func askAll(r *Reader) bool {
	return r.Num() == 0 && r.Small() == 0 && r.Text(math.MaxInt) == "" && r.Count(math.MaxInt) == 0 && r.Left() == 0
}

// mustBad holds a Reader to be bad, and to stay so, whatever is asked.
func mustBad(t *testing.T, what string, r *Reader) {
	t.Helper()
	for range 3 {
		if r.Good() || r.End() || r.Left() != 0 {
			t.Errorf("%s: good %v, end %v, left %d", what, r.Good(), r.End(), r.Left())
		}
		if !askAll(r) {
			t.Errorf("%s: a bad one tells something", what)
		}
		r.Refuse(false)
	}
}

func TestP301ZeroAndNilWriter(t *testing.T) {
	var zero Writer
	if b := zero.Bytes(); len(b) != 0 {
		t.Error("the zero one", b)
	}
	zero.Num()
	zero.Small()
	zero.Text()
	zero.Num([]int64{}...)
	zero.Small([]int{}...)
	zero.Text([]string{}...)
	if b := zero.Bytes(); len(b) != 0 {
		t.Error("nothing was laid", b)
	}
	var none *Writer
	for range 2 {
		none.Num(1, 2)
		none.Small(3)
		none.Text("a", "")
		if b := none.Bytes(); len(b) != 0 {
			t.Error("a nil one", b)
		}
	}
}

func TestP301ZeroAndNilReader(t *testing.T) {
	var none *Reader
	for name, r := range map[string]*Reader{"nil": none, "zero": {}, "of nil": Read(nil), "of empty": Read([]byte{}), "of a cut row": Read(row(9)[:0])} {
		if !r.Good() || !r.End() || r.Left() != 0 {
			t.Errorf("%s: good %v, end %v, left %d", name, r.Good(), r.End(), r.Left())
		}
		r.Refuse(false)
		if !r.Good() || !r.End() {
			t.Errorf("%s: refused what is not so", name)
		}
	}
	for range 2 {
		if !askAll(none) || none.Text(-1) != "" || none.Text(0) != "" || none.Count(-1) != 0 || none.Count(math.MinInt) != 0 {
			t.Error("a nil one tells something")
		}
		none.Refuse(true)
	}
	for i, ask := range []func(r *Reader) bool{
		func(r *Reader) bool { return r.Num() == 0 },
		func(r *Reader) bool { return r.Small() == 0 },
		func(r *Reader) bool { return r.Text(9) == "" },
		func(r *Reader) bool { return r.Count(9) == 0 },
	} {
		for _, r := range []*Reader{{}, Read(nil)} {
			if !ask(r) {
				t.Error("asked", i, "told something of no bytes")
			}
			mustBad(t, "of no bytes", r)
		}
	}
}

func TestP301ReaderKeepsNothing(t *testing.T) {
	room := append(laidText("abc"), 1, 2, 3, 4)
	in := room[:7]
	kept := bytes.Clone(room)
	r := Read(in)
	if !bytes.Equal(room, kept) {
		t.Error("Read changed what was handed in")
	}
	clear(room)
	if s := r.Text(9); s != "abc" {
		t.Errorf("%q, once what was handed in is changed", s)
	}
	if n := r.Small(); n != 0x0201 || !r.End() {
		t.Error(n, r.Left())
	}
	if !bytes.Equal(room, make([]byte, len(room))) {
		t.Error("reading changed what was handed in")
	}
}

func TestP301ReadersAreApart(t *testing.T) {
	b := row(40)
	one, two := Read(b), Read(b)
	one.Num()
	one.Refuse(true)
	if !two.Good() || two.Left() != 40 || two.Num() != int64(binary.LittleEndian.Uint64(b)) {
		t.Error("one Reader hangs on another")
	}
}

func TestP301BytesShareNothing(t *testing.T) {
	var w Writer
	w.Text("abc")
	want := laidText("abc")
	first, second := w.Bytes(), w.Bytes()
	clear(first[:cap(first)])
	if !bytes.Equal(second, want) || !bytes.Equal(w.Bytes(), want) {
		t.Error("Bytes shares with another answer, or with the Writer")
	}
	// What is laid behind, and what stands in the room behind an answer, do not meet.
	_ = append(second, 7, 7, 7)
	w.Small(1)
	if b := w.Bytes(); !bytes.Equal(b, append(bytes.Clone(want), 1, 0)) || !bytes.Equal(second, want) {
		t.Error(b, second)
	}
}

func TestP301TextsShareNothing(t *testing.T) {
	var w Writer
	w.Text("abcdef")
	r := Read(w.Bytes())
	own := r.left
	s := r.Text(6)
	clear(own)
	clear(w.laid)
	if s != "abcdef" {
		t.Errorf("%q, once the bytes of Reader and Writer are changed", s)
	}
}

func TestP301ListsAreNotChanged(t *testing.T) {
	l, k, s := []int64{1, -2, 3}, []int{-1, 70000, 3}, []string{"a", strings.Repeat("b", 70000)}
	var w Writer
	w.Num(l[:2]...)
	w.Small(k[:2]...)
	w.Text(s...)
	if l[0] != 1 || l[1] != -2 || l[2] != 3 || k[0] != -1 || k[1] != 70000 || k[2] != 3 || s[0] != "a" || len(s[1]) != 70000 {
		t.Error("changed what was handed in")
	}
}

func TestP302Named(t *testing.T) {
	var w Writer
	w.Text("ab")
	if b := w.Bytes(); !bytes.Equal(b, []byte{2, 0, 'a', 'b'}) {
		t.Error(b)
	}
	w = Writer{}
	w.Num(0x0102030405060708, -2)
	w.Small(0x0304, 5)
	w.Text("", "c")
	if b := w.Bytes(); !bytes.Equal(b, []byte{8, 7, 6, 5, 4, 3, 2, 1, 0xfe, 0xff, 0xff, 0xff, 0xff, 0xff, 0xff, 0xff, 4, 3, 5, 0, 0, 0, 1, 0, 'c'}) {
		t.Error(b)
	}
}

func TestP302Num(t *testing.T) {
	var all Writer
	var want []byte
	for _, n := range nums {
		var w Writer
		w.Num(n)
		one := binary.LittleEndian.AppendUint64(nil, uint64(n))
		if b := w.Bytes(); !bytes.Equal(b, one) {
			t.Error(n, b, one)
		}
		want = append(want, one...)
	}
	all.Num(nums...)
	if b := all.Bytes(); !bytes.Equal(b, want) {
		t.Error("all", b, want)
	}
}

func TestP302Small(t *testing.T) {
	var all Writer
	var want []byte
	var l []int
	for _, x := range smalls {
		var w Writer
		w.Small(x[0])
		one := binary.LittleEndian.AppendUint16(nil, uint16(x[1]))
		if b := w.Bytes(); !bytes.Equal(b, one) {
			t.Error(x, b, one)
		}
		want = append(want, one...)
		l = append(l, x[0])
	}
	all.Small(l...)
	if b := all.Bytes(); !bytes.Equal(b, want) {
		t.Error("all", b, want)
	}
}

func TestP302Text(t *testing.T) {
	var all Writer
	var want []byte
	for _, s := range texts {
		var w Writer
		w.Text(s)
		if b := w.Bytes(); !bytes.Equal(b, laidText(s)) {
			t.Error(len(s), "laid otherwise")
		}
		want = append(want, laidText(s)...)
	}
	all.Text(texts...)
	if b := all.Bytes(); !bytes.Equal(b, want) {
		t.Error("all laid otherwise")
	}
}

func TestP302LongTextIsCut(t *testing.T) {
	for _, n := range []int{65536, 65537, 1<<17 - 1, 1 << 17, api.MaxBytes} {
		s := string(row(n))
		var w Writer
		w.Text(s, "ab")
		want := append(laidText(s[:65535]), 2, 0, 'a', 'b')
		if b := w.Bytes(); !bytes.Equal(b, want) {
			t.Errorf("of %d: %d bytes, want %d", n, len(b), len(want))
		}
	}
}

func TestP302OneBehindTheOther(t *testing.T) {
	var w, alone Writer
	w.Num(nums...)
	w.Small(1, 2)
	w.Text("a", "bc")
	for _, n := range nums {
		alone.Num(n)
		if len(alone.Bytes())%8 != 0 {
			t.Error("asked on the way", n)
		}
	}
	alone.Small(1)
	alone.Small(2)
	alone.Text("a")
	alone.Text("bc")
	if !bytes.Equal(w.Bytes(), alone.Bytes()) || !bytes.Equal(w.Bytes(), w.Bytes()) {
		t.Error("together otherwise than one by one")
	}
}

func TestP303Num(t *testing.T) {
	for _, n := range nums {
		b := binary.LittleEndian.AppendUint64(nil, uint64(n))
		r := Read(append(b, 9))
		if m := r.Num(); m != n || !r.Good() || r.Left() != 1 || r.End() {
			t.Error(n, m, r.Left())
		}
		for cut := range b {
			r := Read(b[:cut])
			if m := r.Num(); m != 0 {
				t.Error(n, "cut at", cut, m)
			}
			mustBad(t, "a cut Num", r)
		}
	}
}

func TestP303Small(t *testing.T) {
	for n := range 65536 {
		r := Read([]byte{byte(n), byte(n >> 8), 9})
		if m := r.Small(); m != n || !r.Good() || r.Left() != 1 || r.End() {
			t.Fatal(n, m, r.Left())
		}
	}
	for cut := range 2 {
		r := Read([]byte{7, 7}[:cut])
		if m := r.Small(); m != 0 {
			t.Error("cut at", cut, m)
		}
		mustBad(t, "a cut Small", r)
	}
}

func TestP303Text(t *testing.T) {
	for _, s := range texts {
		b := laidText(s)
		for _, bound := range []int{len(s), len(s) + 1, math.MaxInt} {
			r := Read(append(bytes.Clone(b), 9))
			if m := r.Text(bound); m != s || !r.Good() || r.Left() != 1 || r.End() {
				t.Error(len(s), bound, len(m), r.Left())
			}
		}
		for _, bound := range []int{len(s) - 1, -1, math.MinInt} {
			r := Read(append(bytes.Clone(b), 9))
			if m := r.Text(bound); m != "" {
				t.Error(len(s), bound, len(m))
			}
			mustBad(t, "a Text above most", r)
		}
		for _, cut := range []int{0, 1, len(b) - 1} {
			r := Read(b[:cut])
			if m := r.Text(math.MaxInt); m != "" {
				t.Error(len(s), "cut at", cut, len(m))
			}
			mustBad(t, "a cut Text", r)
		}
	}
}

func TestP303Count(t *testing.T) {
	for _, x := range []struct {
		n, most int
		good    bool
	}{
		{0, 0, true}, {0, 1, true}, {1, 1, true}, {7, 8, true}, {32, 32, true}, {65535, 65535, true}, {65535, math.MaxInt, true},
		{0, -1, false}, {0, math.MinInt, false}, {1, 0, false}, {33, 32, false}, {65535, 65534, false}, {256, 255, false},
	} {
		r := Read([]byte{byte(x.n), byte(x.n >> 8), 9})
		m := r.Count(x.most)
		if !x.good {
			if m != 0 {
				t.Error(x, m)
			}
			mustBad(t, "a Count above most", r)
			continue
		}
		if m != x.n || !r.Good() || r.Left() != 1 || r.End() {
			t.Error(x, m, r.Left())
		}
	}
	for cut := range 2 {
		r := Read([]byte{1, 0}[:cut])
		if m := r.Count(9); m != 0 {
			t.Error("cut at", cut, m)
		}
		mustBad(t, "a cut Count", r)
	}
}

func TestP303Refuse(t *testing.T) {
	r := Read(row(20))
	r.Refuse(false)
	if !r.Good() || r.Left() != 20 || r.End() {
		t.Error("refused what is not so")
	}
	if n := r.Small(); n != int(binary.LittleEndian.Uint16(row(2))) || r.Left() != 18 {
		t.Error(n, r.Left())
	}
	r.Refuse(true)
	mustBad(t, "refused", r)
	r = Read(nil)
	r.Refuse(true)
	mustBad(t, "refused of no bytes", r)
	r = Read([]byte{1, 0})
	if r.Small() != 1 || !r.End() {
		t.Error("not read whole")
	}
	r.Refuse(true)
	mustBad(t, "refused at the end", r)
}

func TestP303LeftAndEnd(t *testing.T) {
	var w Writer
	w.Num(1)
	w.Small(2)
	w.Text("abc")
	w.Small(4)
	r := Read(w.Bytes())
	for i, ask := range []struct {
		read func()
		left int
	}{
		{func() {}, 17}, {func() { r.Num() }, 9}, {func() { r.Small() }, 7}, {func() { r.Text(3) }, 2}, {func() { r.Count(4) }, 0},
	} {
		ask.read()
		if r.Left() != ask.left || !r.Good() || r.End() != (ask.left == 0) {
			t.Error(i, r.Left(), r.Good(), r.End())
		}
	}
	// What is asked behind the end is not there: what was read whole is bad from now on.
	if n := r.Num(); n != 0 {
		t.Error(n)
	}
	mustBad(t, "behind the end", r)
}

func TestP303BadStaysBad(t *testing.T) {
	// More is asked than is there, though there would be enough for what is asked next.
	r := Read([]byte{1, 0, 2, 0, 3, 0})
	if n := r.Num(); n != 0 {
		t.Error(n)
	}
	mustBad(t, "6 bytes as Num", r)
	// The length is there, the text is not.
	r = Read([]byte{9, 0, 1, 0, 1, 0})
	if s := r.Text(9); s != "" {
		t.Errorf("%q", s)
	}
	mustBad(t, "a text that is not there whole", r)
}

// step lays, or reads, one thing: which one is told by a byte, what it is by another one.
type step struct{ kind, n byte }

func (s step) lay(w *Writer) {
	switch s.kind % 3 {
	case 0:
		w.Num(int64(s.n)*0x0101010101010101 - 77)
	case 1:
		w.Small(int(s.n) * 257)
	case 2:
		w.Text(string(row(int(s.n) * 3)))
	}
}

func (s step) read(t *testing.T, r *Reader) {
	switch s.kind % 3 {
	case 0:
		if n := r.Num(); n != int64(s.n)*0x0101010101010101-77 {
			t.Error(s, n)
		}
	case 1:
		if n := r.Count(int(s.n) * 257); n != int(s.n)*257 {
			t.Error(s, n)
		}
	case 2:
		if b := r.Text(int(s.n) * 3); b != string(row(int(s.n)*3)) {
			t.Errorf("%v %q", s, b)
		}
	}
}

// copyStep reads one thing and lays it anew.
func (s step) copyStep(w *Writer, r *Reader) {
	switch s.kind % 4 {
	case 0:
		w.Num(r.Num())
	case 1:
		w.Small(r.Small())
	case 2:
		w.Text(r.Text(mostSmall))
	case 3:
		w.Small(r.Count(mostSmall))
	}
}

func steps(seed, n int) []step {
	var l []step
	b := row(seed + 2*n)[seed:]
	for i := range n {
		l = append(l, step{b[2*i] >> 2, b[2*i+1]})
	}
	return l
}

func TestP304ReadAsLaid(t *testing.T) {
	for seed := range 60 {
		l := steps(seed, seed)
		var w Writer
		for _, s := range l {
			s.lay(&w)
		}
		r := Read(w.Bytes())
		for _, s := range l {
			s.read(t, r)
		}
		if !r.End() {
			t.Error(seed, r.Good(), r.Left())
		}
	}
}

func TestP304ReadWholeWasLaidSo(t *testing.T) {
	whole := 0
	for n := range 40 {
		for seed := range 40 {
			b := row(seed + n)[seed:]
			r := Read(b)
			var w Writer
			for _, s := range steps(n+seed, 40) {
				if r.End() || !r.Good() {
					break
				}
				s.copyStep(&w, r)
			}
			if r.End() {
				whole++
				if !bytes.Equal(w.Bytes(), b) {
					t.Error(n, seed, w.Bytes(), b)
				}
			}
		}
	}
	if whole < 100 {
		t.Error("too few were read whole:", whole)
	}
}

func TestP304Many(t *testing.T) {
	l := make([]int64, api.MaxBytes/8)
	for i := range l {
		l[i] = int64(i) * -0x0123456789abcdf
	}
	var w Writer
	w.Num(l...)
	b := w.Bytes()
	if len(b) != api.MaxBytes {
		t.Fatal(len(b))
	}
	r := Read(b)
	for i := range l {
		if n := r.Num(); n != l[i] {
			t.Fatal(i, n, l[i])
		}
	}
	if !r.End() {
		t.Error(r.Left())
	}
}
