package export

import (
	"bytes"
	"encoding/binary"
	"math/rand"
	"reflect"
	"slices"
	"strings"
	"sync"
	"testing"
	"unsafe"

	"treadmill/api"
	"treadmill/parse"
	"treadmill/types"
)

func sig(name string, result api.Type, l ...api.Type) api.Sig {
	return api.Sig{Name: name, Params: l, Result: result}
}

// named tells functions without parameters and result.
func named(names ...string) []api.Sig {
	var l []api.Sig
	for _, s := range names {
		l = append(l, sig(s, api.NoType))
	}
	return l
}

// counted tells so many functions, whose names rise.
func counted(n int) []api.Sig {
	var l []api.Sig
	for i := range n {
		l = append(l, sig("F"+string([]byte{'A' + byte(i/26), 'a' + byte(i%26)}), api.Type(i%3), []api.Type{1, 2, 2, 1}[:i%5]...))
	}
	return l
}

func small(n int) []byte {
	return binary.LittleEndian.AppendUint16(nil, uint16(n))
}

// plainBytes are a list's bytes, by the library; whether it may be is not asked.
func plainBytes(l []api.Sig) []byte {
	b := small(len(l))
	for _, s := range l {
		b = slices.Concat(b, small(len(s.Name)), []byte(s.Name), small(len(s.Params)))
		for _, t := range s.Params {
			b = append(b, small(int(t))...)
		}
		b = append(b, small(int(s.Result))...)
	}
	return b
}

// plain is a list with nil in place of what is empty: they mean the same.
func plain(l []api.Sig) []api.Sig {
	var p []api.Sig
	for _, s := range l {
		if len(s.Params) == 0 {
			s.Params = nil
		}
		p = append(p, s)
	}
	return p
}

func sameList(a, b []api.Sig) bool {
	return reflect.DeepEqual(plain(a), plain(b))
}

// wantRight holds that a list may be, and is told as bytes, and back.
func wantRight(t *testing.T, l []api.Sig) {
	t.Helper()
	if !Right(l) {
		t.Errorf("%v may not be", l)
	}
	b, no := Encode(l)
	if no != api.OK || !bytes.Equal(b, plainBytes(l)) {
		t.Errorf("%v: %v, error %d, want %v", l, b, no, plainBytes(l))
	}
	if got, no := Decode(plainBytes(l)); no != api.OK || !sameList(got, l) {
		t.Errorf("%v read as %v, error %d", l, got, no)
	}
}

// wantWrong holds that a list may not be, and that no bytes are its.
func wantWrong(t *testing.T, l []api.Sig) {
	t.Helper()
	if Right(l) {
		t.Errorf("%v may be", l)
	}
	if b, no := Encode(l); no != api.ErrArg || len(b) != 0 {
		t.Errorf("%v: %v, error %d", l, b, no)
	}
	wantNoList(t, plainBytes(l))
}

func wantNoList(t *testing.T, b []byte) {
	t.Helper()
	if l, no := Decode(b); no != api.ErrForm || len(l) != 0 {
		t.Errorf("%v read as %v, error %d", b, l, no)
	}
}

// wantListOrForm holds that bytes have no list, or just one that has just them, and tells whether they have.
func wantListOrForm(t *testing.T, b []byte) bool {
	t.Helper()
	l, no := Decode(b)
	if no != api.OK {
		wantNoList(t, b)
		return false
	}
	if !bytes.Equal(plainBytes(l), b) {
		t.Errorf("%v read as %v", b, l)
	}
	wantRight(t, l)
	return true
}

func TestP1302Example(t *testing.T) {
	if b, no := Encode(nil); no != api.OK || !bytes.Equal(b, []byte{0, 0}) {
		t.Errorf("no functions: %v, error %d", b, no)
	}
	if l, no := Decode([]byte{0, 0}); no != api.OK || len(l) != 0 {
		t.Errorf("0 0: %v, error %d", l, no)
	}
	if !Right(nil) {
		t.Error("no functions may not be")
	}
}

func TestP1302Bytes(t *testing.T) {
	l := []api.Sig{sig("F", api.NoType), sig("Go", api.Bool, api.Int, api.Bool)}
	want := []byte{2, 0, 1, 0, 'F', 0, 0, 0, 0, 2, 0, 'G', 'o', 2, 0, 1, 0, 2, 0, 2, 0}
	if b, no := Encode(l); no != api.OK || !bytes.Equal(b, want) {
		t.Errorf("%v, error %d, want %v", b, no, want)
	}
	if got, no := Decode(want); no != api.OK || !sameList(got, l) {
		t.Errorf("%v, error %d, want %v", got, no, l)
	}
	wantRight(t, l)
}

func TestP1302Names(t *testing.T) {
	longest := strings.Repeat("N", api.MaxName)
	// A name need not be one that others see.
	for _, s := range []string{"A", "Z", "a", "z", "_", "_1", "A_9z", "main", "If", "ints", longest, "_" + longest[1:]} {
		wantRight(t, named(s))
	}
	for _, s := range []string{"", "1", "9A", "A b", "A.B", "A-", "É", "A\x00", "\xff", " A", "A ", "if", "int", "package", "true", longest + "N", strings.Repeat("N", 300), strings.Repeat("N", 1<<16)} {
		wantWrong(t, named(s))
		wantWrong(t, append(named("A"), named(s)...))
	}
	for c := range 256 {
		s := "A" + string([]byte{byte(c)})
		if strings.Contains("ABCDEFGHIJKLMNOPQRSTUVWXYZabcdefghijklmnopqrstuvwxyz0123456789_", s[1:]) {
			wantRight(t, named(s))
		} else {
			wantWrong(t, named(s))
		}
	}
}

func TestP1302NamesRise(t *testing.T) {
	// By bytes: digits, great letters, _, small ones; a shorter one is ahead of what goes on from it.
	rising := []string{"E9", "F", "F10", "F9", "FA", "F_", "Fa", "Faa", "G", "_", "a", "aA", "ab", "b"}
	wantRight(t, named(rising...))
	for i, a := range rising {
		for j, b := range rising {
			if i < j {
				wantRight(t, named(a, b))
			} else {
				wantWrong(t, named(a, b))
			}
		}
	}
	// Each is held against the one right ahead, wherever it stands.
	for i := range rising[1:] {
		l := named(rising...)
		l[i], l[i+1] = l[i+1], l[i]
		wantWrong(t, l)
		l = named(rising...)
		l[i+1].Name = l[i].Name
		l[i+1].Params, l[i+1].Result = []api.Type{api.Int}, api.Int
		wantWrong(t, l)
	}
	wantWrong(t, named("A", "C", "B"))
	wantWrong(t, named("B", "A", "C"))
	wantWrong(t, named("A", "B", "A"))
}

func TestP1302HowMany(t *testing.T) {
	for n := range 2*api.MaxFuncs + 2 {
		if n <= api.MaxFuncs {
			wantRight(t, counted(n))
		} else {
			wantWrong(t, counted(n))
		}
	}
	// So many that what is laid of how many there are would be cut, or come round to one.
	for _, n := range []int{1<<16 - 1, 1 << 16, 1<<16 + 1} {
		l := slices.Repeat(named("A"), n)
		if b, no := Encode(l); Right(l) || no != api.ErrArg || len(b) != 0 {
			t.Errorf("%d: right %v, %d bytes, error %d", n, Right(l), len(b), no)
		}
	}
}

func TestP1302Params(t *testing.T) {
	for n := range 9 {
		for bits := range 1 << n {
			s := sig("F", api.Int)
			for i := range n {
				s.Params = append(s.Params, api.Int+api.Type(bits>>i&1))
			}
			if n <= api.MaxParams {
				wantRight(t, []api.Sig{s})
			} else {
				wantWrong(t, []api.Sig{s})
			}
		}
	}
	// Each is Int or Bool; none is NoType.
	for x := range 256 {
		for at := range api.MaxParams {
			l := counted(3)
			l[1].Params = slices.Repeat([]api.Type{api.Int}, api.MaxParams)
			l[1].Params[at] = api.Type(x)
			if x == 1 || x == 2 {
				wantRight(t, l)
			} else {
				wantWrong(t, l)
			}
		}
	}
	l := []api.Sig{sig("F", api.Int, slices.Repeat([]api.Type{api.Int}, 1<<16)...)}
	if b, no := Encode(l); Right(l) || no != api.ErrArg || len(b) != 0 {
		t.Errorf("2^16 parameters: right %v, %d bytes, error %d", Right(l), len(b), no)
	}
}

func TestP1302Results(t *testing.T) {
	for x := range 256 {
		for at := range 3 {
			l := counted(3)
			l[at].Result = api.Type(x)
			if x <= 2 {
				wantRight(t, l)
			} else {
				wantWrong(t, l)
			}
		}
	}
}

// What a parsed file lets others see may be.
func TestP1302Exports(t *testing.T) {
	f, no := parse.File("package p\nfunc Z(a int, b bool) bool { return b }\nfunc g() int { return 1 }\nfunc A() {}\nfunc Y() int { return 2 }\n")
	if no != api.OK {
		t.Fatal(no)
	}
	wantRight(t, types.Exports(f))
	if b, _ := Encode(types.Exports(f)); !bytes.Equal(b, plainBytes([]api.Sig{sig("A", api.NoType), sig("Y", api.Int), sig("Z", api.Bool, api.Int, api.Bool)})) {
		t.Error(b)
	}
	// All of them are not told in order.
	wantWrong(t, types.All(f))
}

func TestP1302DecodeWrong(t *testing.T) {
	for _, b := range [][]byte{
		nil, {}, {0}, {1}, {0, 0, 0}, {0, 0, 0, 0},
		// Functions that are not there, and more than may be.
		{1, 0}, {32, 0}, {33, 0}, {0, 1}, {255, 255},
		// A list of one, and something behind it.
		{1, 0, 1, 0, 'F', 0, 0, 0, 0, 0},
		{1, 0, 1, 0, 'F', 0, 0, 0, 0, 1, 0, 'G', 0, 0, 0, 0},
		// A length of 257, and one that is not there.
		{1, 0, 1, 1, 'F', 0, 0, 0, 0},
		{1, 0, 9, 0, 'F', 0, 0, 0, 0},
		// 256, 257, and 258, as types: cut to a byte they were right.
		{1, 0, 1, 0, 'F', 0, 0, 0, 1},
		{1, 0, 1, 0, 'F', 0, 0, 1, 1},
		{1, 0, 1, 0, 'F', 0, 0, 2, 1},
		{1, 0, 1, 0, 'F', 1, 0, 1, 1, 0, 0},
		{1, 0, 1, 0, 'F', 1, 0, 2, 1, 0, 0},
		{1, 0, 1, 0, 'F', 1, 0, 0, 0, 0, 0},
		// 256 parameters.
		{1, 0, 1, 0, 'F', 0, 1, 0, 0},
	} {
		wantNoList(t, b)
	}
	wantNoList(t, bytes.Repeat([]byte{1, 0}, 1<<20))
	wantNoList(t, make([]byte, 1<<21))
}

func TestP1302DecodeCut(t *testing.T) {
	for _, n := range []int{0, 1, 2, 7, api.MaxFuncs} {
		b := plainBytes(counted(n))
		for cut := range b {
			wantNoList(t, b[:cut])
		}
		for c := range 256 {
			wantNoList(t, append(bytes.Clone(b), byte(c)))
		}
		wantNoList(t, append(b, b...))
	}
}

// Whatever one byte is made, the bytes have no list, or another one.
func TestP1303Spoilt(t *testing.T) {
	b := plainBytes([]api.Sig{sig("A", api.Int, api.Bool), sig("Bc", api.NoType), sig("C", api.Bool, api.Int, api.Int, api.Bool, api.Bool)})
	lists := 0
	for at, was := range b {
		for c := range 256 {
			b[at] = byte(c)
			if wantListOrForm(t, b) {
				lists++
			}
		}
		b[at] = was
	}
	if lists < 3*len(b) || lists > 20*len(b) {
		t.Errorf("%d lists", lists)
	}
}

// Of all bytes of a length, just those of lists have one.
func TestP1303AllShort(t *testing.T) {
	letters := []byte{0, 1, 2, 'a'}
	// Of 9 bytes: a, with each result; of 10: aa; of 11: a, with each parameter and result.
	want := map[int]int{2: 1, 9: 3, 10: 3, 11: 6}
	for n := range 12 {
		lists := 0
		b := make([]byte, n)
		for x := range 1 << (2 * n) {
			for i := range b {
				b[i] = letters[x>>(2*i)&3]
			}
			if l, no := Decode(b); no == api.OK {
				lists++
				wantListOrForm(t, b)
			} else if no != api.ErrForm || len(l) != 0 {
				t.Fatalf("%v: %v, error %d", b, l, no)
			}
		}
		if lists != want[n] {
			t.Errorf("%d lists of %d bytes, want %d", lists, n, want[n])
		}
	}
}

// anyList tells a list that mostly may be.
func anyList(r *rand.Rand) []api.Sig {
	var names []string
	for range r.Intn(api.MaxFuncs + 1) {
		s := make([]byte, 1+r.Intn(1+r.Intn(api.MaxName)))
		for i := range s {
			s[i] = "ABYZabyz_"[r.Intn(9)]
		}
		names = append(names, string(s))
	}
	slices.Sort(names)
	l := named(slices.Compact(names)...)
	for i := range l {
		l[i].Result = api.Type(r.Intn(3))
		for range r.Intn(api.MaxParams + 1) {
			l[i].Params = append(l[i].Params, api.Int+api.Type(r.Intn(2)))
		}
	}
	return l
}

func TestP1303ThereAndBack(t *testing.T) {
	r := rand.New(rand.NewSource(13))
	for range 3000 {
		l := anyList(r)
		wantRight(t, l)
		b, _ := Encode(l)
		got, no := Decode(b)
		if again, no2 := Encode(got); no != api.OK || no2 != api.OK || !bytes.Equal(again, b) {
			t.Errorf("%v: errors %d, %d; %v, want %v", l, no, no2, again, b)
		}
	}
}

// Unlike lists have unlike bytes.
func TestP1303Unlike(t *testing.T) {
	r := rand.New(rand.NewSource(31))
	for range 3000 {
		l := anyList(r)
		if len(l) == 0 {
			continue
		}
		was, _ := Encode(l)
		s := &l[r.Intn(len(l))]
		switch r.Intn(3) {
		case 0:
			s.Result = (s.Result + 1) % 3
		case 1:
			s.Params = append(s.Params, api.Int)
		default:
			s.Name += "0"
		}
		if b, no := Encode(l); no == api.OK && bytes.Equal(b, was) {
			t.Errorf("%v has the bytes of another one", l)
		}
	}
}

func TestP1303SpoiltMany(t *testing.T) {
	r := rand.New(rand.NewSource(3))
	lists := 0
	for range 40000 {
		b := plainBytes(anyList(r))
		// The shortest one has two bytes, so that one is left to be spoilt.
		for range 1 + r.Intn(2) {
			b = spoil(r, b)
		}
		if wantListOrForm(t, b) {
			lists++
		}
	}
	if lists < 100 {
		t.Errorf("%d lists: too few", lists)
	}
}

// spoil makes one byte another one, or takes one out, or in.
func spoil(r *rand.Rand, b []byte) []byte {
	at := r.Intn(len(b))
	switch r.Intn(4) {
	case 0:
		b[at] = byte(r.Intn(256))
	case 1:
		b[at] += byte(r.Intn(3)) - 1
	case 2:
		return slices.Insert(b, at, byte(r.Intn(4)))
	default:
		return slices.Delete(b, at, at+1)
	}
	return b
}

// behind is a text that hangs on bytes: as they are changed, so is it, and whatever shares their memory.
func behind(b []byte) string {
	return unsafe.String(&b[0], len(b))
}

func TestP1301NothingShared(t *testing.T) {
	want := []api.Sig{sig("F", api.Int, api.Bool, api.Int), sig("G", api.NoType, api.Int)}
	name := []byte("F")
	l := []api.Sig{sig(behind(name), api.Int, api.Bool, api.Int), sig("G", api.NoType, api.Int)}
	b, _ := Encode(l)
	other, _ := Encode(l)
	clear(name)
	clear(l[0].Params)
	clear(l)
	clear(other[:cap(other)])
	if !bytes.Equal(b, plainBytes(want)) {
		t.Errorf("bytes that share something: %v", b)
	}
	one, _ := Decode(b)
	two, _ := Decode(b)
	clear(b)
	for _, s := range two {
		clear(s.Params[:cap(s.Params)])
	}
	clear(two[:cap(two)])
	// Not even the room behind one of its lists is another one's.
	for _, s := range one {
		clear(s.Params[len(s.Params):cap(s.Params)])
	}
	if !sameList(one, want) {
		t.Errorf("a list that shares something: %v, want %v", one, want)
	}
}

func TestP1301NothingChanged(t *testing.T) {
	room := []api.Sig{sig("F", api.Int, api.Bool), sig("G", api.NoType), sig("A", 9)}
	params := []api.Type{api.Bool, 9, 9}
	room[0].Params = params[:1]
	was := []api.Sig{sig("F", api.Int, api.Bool), sig("G", api.NoType), sig("A", 9)}
	b, no := Encode(room[:2])
	if no != api.OK || !Right(room[:2]) || Right(room) {
		t.Error(no)
	}
	if !sameList(room, was) || !slices.Equal(params, []api.Type{api.Bool, 9, 9}) {
		t.Errorf("changed: %v %v", room, params)
	}
	full := append(bytes.Clone(b), 7, 7, 7)
	want := bytes.Clone(full)
	if l, no := Decode(full[:len(b)]); no != api.OK || !sameList(l, was[:2]) {
		t.Error(l, no)
	}
	wantNoList(t, full)
	if !bytes.Equal(full, want) {
		t.Errorf("changed: %v", full)
	}
}

func TestP1301NilAndEmpty(t *testing.T) {
	wantRight(t, nil)
	wantRight(t, []api.Sig{})
	wantRight(t, []api.Sig{{Name: "F"}})
	wantRight(t, []api.Sig{{Name: "F", Params: []api.Type{}}})
	wantWrong(t, []api.Sig{{}})
	wantNoList(t, nil)
	wantNoList(t, []byte{})
}

func TestP1301AtTheSameTime(t *testing.T) {
	l, other := counted(20), counted(7)
	b := plainBytes(l)
	var wait sync.WaitGroup
	for range 8 {
		wait.Go(func() {
			for range 200 {
				got, no := Decode(b)
				bs, no2 := Encode(other)
				if no != api.OK || no2 != api.OK || !sameList(got, l) || !bytes.Equal(bs, plainBytes(other)) || Right(counted(33)) {
					t.Error("not as alone")
				}
			}
		})
	}
	wait.Wait()
}
