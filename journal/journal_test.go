package journal

import (
	"bytes"
	"encoding/binary"
	"fmt"
	"hash/crc32"
	"math"
	"slices"
	"strings"
	"testing"

	"treadmill/api"
	"treadmill/disk"
)

// row is bytes of a short rule, that are not alike and not in order, and none of them 0.
func row(n int) []byte {
	b := make([]byte, n)
	for i := range b {
		b[i] = byte(i*i*7+i>>3*13+5) | 1
	}
	return b
}

// plainMark is a mark's sector, by the library.
func plainMark(kind uint16, gen, seq, n int64) []byte {
	b := binary.LittleEndian.AppendUint16([]byte("TM"), kind)
	for _, x := range []int64{gen, seq, n} {
		b = binary.LittleEndian.AppendUint64(b, uint64(x))
	}
	return bytes.Repeat(binary.LittleEndian.AppendUint32(b, crc32.ChecksumIEEE(b)), 2)
}

func plainHead(gen int64) []byte {
	return plainMark(1, gen, 0, 0)
}

// plainGroup is a group's sectors, one behind the other, by the library.
func plainGroup(gen, seq int64, b []byte) []byte {
	s := plainMark(2, gen, seq, int64(len(b))<<32|int64(crc32.ChecksumIEEE(b)))
	s = append(s, b...)
	return append(s, make([]byte, -len(b)&63)...)
}

// plainHalf is the sectors of groups that stand one behind the other.
func plainHalf(gen int64, l ...[]byte) []byte {
	var s []byte
	for i, b := range l {
		s = append(s, plainGroup(gen, int64(i), b)...)
	}
	return s
}

func fresh(t *testing.T, sectors int) *disk.Disk {
	t.Helper()
	d, e := disk.New(sectors)
	if e != api.OK {
		t.Fatalf("disk.New(%d) = %v", sectors, e)
	}
	return d
}

// full is a disk whose sectors are bytes that are no marks.
func full(t *testing.T, sectors int) *disk.Disk {
	t.Helper()
	d := fresh(t, sectors)
	for i := range sectors {
		lay(t, d, i, bytes.Repeat([]byte{byte(i)*2 + 1}, 64))
	}
	return d
}

// lay makes sectors of a disk safe, from one on.
func lay(t *testing.T, d *disk.Disk, i int, b []byte) {
	t.Helper()
	for k := range len(b) / 64 {
		if e := d.Write(i+k, b[64*k:64*k+64]); e != api.OK {
			t.Fatalf("Write(%d) = %v", i+k, e)
		}
	}
	if e := d.Sync(); e != api.OK {
		t.Fatalf("Sync = %v", e)
	}
}

func open(t *testing.T, d *disk.Disk) *Journal {
	t.Helper()
	j, e := Open(d)
	if e != api.OK || j == nil {
		t.Fatalf("Open = %v, %v", j, e)
	}
	return j
}

// image is all that is read of a disk.
func image(t *testing.T, d *disk.Disk) []byte {
	t.Helper()
	var b []byte
	for i := range d.Sectors() {
		s, e := d.Read(i)
		if e != api.OK {
			t.Fatalf("Read(%d) = %v", i, e)
		}
		b = append(b, s...)
	}
	return b
}

func wantSectors(t *testing.T, d *disk.Disk, i int, want []byte) {
	t.Helper()
	if got := image(t, d)[64*i:][:len(want)]; !bytes.Equal(got, want) {
		t.Errorf("from sector %d on: %v, want %v", i, got, want)
	}
}

func sameGroups(a, b [][]byte) bool {
	return slices.EqualFunc(a, b, bytes.Equal)
}

// short tells groups as one can read them: how long each is, and its first bytes.
func short(l [][]byte) string {
	var s []string
	for _, b := range l {
		s = append(s, fmt.Sprint(len(b), b[:min(len(b), 4)]))
	}
	return strings.Join(s, ", ")
}

// wantState holds a journal that is up to all that it tells.
func wantState(t *testing.T, j *Journal, gen int64, l ...[]byte) {
	t.Helper()
	if got := j.Groups(); !sameGroups(got, l) {
		t.Errorf("groups %s, want %s", short(got), short(l))
	}
	if j.Gen() != gen || j.Used() != Takes(l...) || j.Down() {
		t.Errorf("gen %d, used %d, down %v, want %d, %d, false", j.Gen(), j.Used(), j.Down(), gen, Takes(l...))
	}
}

func wantErr(t *testing.T, what string, got, want api.Errno) {
	t.Helper()
	if got != want {
		t.Errorf("%s = %v, want %v", what, got, want)
	}
}

func TestP601JournalThatOpenDidNotMake(t *testing.T) {
	for _, j := range []*Journal{nil, {}} {
		for range 2 {
			for _, b := range [][]byte{nil, row(3), make([]byte, api.MaxBytes+1)} {
				wantErr(t, "Append", j.Append(b), api.ErrArg)
				wantErr(t, "Reset", j.Reset(b), api.ErrArg)
			}
			wantErr(t, "Reset()", j.Reset(), api.ErrArg)
			if len(j.Groups()) != 0 || j.Room() != 0 || j.Used() != 0 || j.Gen() != 0 || !j.Down() {
				t.Errorf("%v: %v %d %d %d %v", j, j.Groups(), j.Room(), j.Used(), j.Gen(), j.Down())
			}
		}
	}
}

func TestP601WhatIsHandedInIsCopied(t *testing.T) {
	j := open(t, fresh(t, 32))
	room := row(200)
	was := bytes.Clone(room)
	wantErr(t, "Append", j.Append(room[:70]), api.OK)
	list := [][]byte{room[:70], room[70:90], {7}}
	if !bytes.Equal(room, was) {
		t.Error("Append changed what was handed in")
	}
	clear(room)
	wantState(t, j, 1, was[:70])
	copy(room, was)
	wantErr(t, "Reset", j.Reset(list[:2]...), api.OK)
	if !bytes.Equal(room, was) || len(list) != 3 || !bytes.Equal(list[2], []byte{7}) {
		t.Error("Reset changed what was handed in")
	}
	clear(room)
	clear(list)
	wantState(t, j, 2, was[:70], was[70:90])
}

func TestP601GroupsShareNothing(t *testing.T) {
	d := fresh(t, 32)
	j := open(t, d)
	one, two := row(70), row(64)
	wantErr(t, "Append", j.Append(one), api.OK)
	wantErr(t, "Append", j.Append(two), api.OK)
	for _, j := range []*Journal{j, open(t, d)} {
		for range 2 {
			l := j.Groups()
			for i, b := range l {
				clear(b[:cap(b)])
				l[i] = nil
			}
			_ = append(l[:0], []byte{1}, []byte{2}, []byte{3})
			wantState(t, j, 1, one, two)
		}
		l := j.Groups()
		_ = append(l[0], 1, 2, 3)
		if !bytes.Equal(l[1], two) {
			t.Error("two groups share their room")
		}
	}
}

func TestP601EmptyAndNilAreTheSame(t *testing.T) {
	a, b := fresh(t, 16), fresh(t, 16)
	j, k := open(t, a), open(t, b)
	wantErr(t, "Append", j.Append(nil), api.OK)
	wantErr(t, "Append", k.Append([]byte{}), api.OK)
	wantState(t, j, 1, nil)
	wantErr(t, "Reset", j.Reset(nil, nil), api.OK)
	wantErr(t, "Reset", k.Reset([][]byte{{}, {}}...), api.OK)
	wantState(t, j, 2, nil, nil)
	if !bytes.Equal(image(t, a), image(t, b)) {
		t.Error("nil and empty are laid otherwise")
	}
	wantErr(t, "Reset", j.Reset(), api.OK)
	wantErr(t, "Reset", k.Reset([][]byte{}...), api.OK)
	wantState(t, k, 3)
	if !bytes.Equal(image(t, a), image(t, b)) {
		t.Error("no groups are laid otherwise")
	}
}

func TestP602OpenErrors(t *testing.T) {
	for _, d := range []*disk.Disk{nil, {}, fresh(t, 1), fresh(t, 2), fresh(t, 7)} {
		for range 2 {
			if j, e := Open(d); j != nil || e != api.ErrArg {
				t.Errorf("Open of %d sectors = %v, %v", d.Sectors(), j, e)
			}
			// That there is no such disk is told ahead of its power.
			d.Stop(0)
		}
		if d.Done() != 0 {
			t.Error("a disk that is refused was written to")
		}
	}
	d := fresh(t, 8)
	d.Stop(0)
	if j, e := Open(d); j != nil || e != api.ErrDown {
		t.Errorf("Open without power = %v, %v", j, e)
	}
	d.Crash()
	open(t, d)
	d.Stop(-1)
	if j, e := Open(d); j != nil || e != api.ErrDown {
		t.Errorf("Open without power = %v, %v", j, e)
	}
}

func TestP602OpenBeginsAJournal(t *testing.T) {
	for sectors := 8; sectors < 24; sectors++ {
		d := full(t, sectors)
		want := image(t, d)
		copy(want[64:], plainHead(1))
		clear(want[64*(2+(sectors-2)/2):][:64])
		before := d.Done()
		j := open(t, d)
		wantState(t, j, 1)
		wantSectors(t, d, 0, want)
		if n := d.Done() - before; n != 4 || len(d.Waiting()) != 0 {
			t.Errorf("%d deeds, waiting %v", n, d.Waiting())
		}
		before = d.Done()
		for range 2 {
			wantState(t, open(t, d), 1)
		}
		if d.Done() != before {
			t.Error("a head is there, and something was written")
		}
	}
}

// TestP602OpenDownOnTheWay also holds in which order a journal is begun.
func TestP602OpenDownOnTheWay(t *testing.T) {
	for after, waits := range [][]int{{}, {12}, {}, {1}} {
		d := full(t, 22)
		d.Stop(after)
		if j, e := Open(d); j != nil || e != api.ErrDown {
			t.Errorf("Open, down behind %d deeds = %v, %v", after, j, e)
		}
		if l := d.Waiting(); !slices.Equal(l, waits) || !d.Down() {
			t.Errorf("behind %d deeds: waiting %v, want %v", after, l, waits)
		}
	}
	d := full(t, 22)
	d.Stop(4)
	wantState(t, open(t, d), 1)
}

func TestP602WhatIsAHead(t *testing.T) {
	torn := append(plainHead(3)[:32], plainHead(1)[:32]...)
	for i, x := range []struct {
		at  int
		b   []byte
		gen int64
	}{
		{0, plainHead(2), 2}, {1, plainHead(1), 1}, {1, plainHead(3), 3}, {0, plainHead(math.MaxInt64 - 1), math.MaxInt64 - 1}, {1, plainHead(math.MaxInt64), math.MaxInt64},
		{0, plainHead(1), 0}, {1, plainHead(2), 0}, {0, plainHead(0), 0}, {1, plainHead(0), 0}, {2, plainHead(2), 0}, {0, plainHead(-2), 0}, {1, plainHead(-1), 0},
		{1, plainMark(1, 1, 1, 0), 0}, {1, plainMark(1, 1, 0, 1), 0}, {1, plainMark(2, 1, 0, 0), 0}, {1, plainMark(0, 1, 0, 0), 0}, {1, plainMark(257, 1, 0, 0), 0}, {1, torn, 0},
	} {
		d := fresh(t, 20)
		lay(t, d, x.at, x.b)
		before := d.Done()
		j := open(t, d)
		if x.gen == 0 {
			wantState(t, j, 1)
			wantSectors(t, d, 1, plainHead(1))
			continue
		}
		wantState(t, j, x.gen)
		if d.Done() != before {
			t.Errorf("%d: something was written", i)
		}
	}
}

func TestP602TheGreaterHeadCounts(t *testing.T) {
	one, two := row(5), row(70)
	for _, x := range []struct{ even, odd, gen int64 }{{2, 1, 2}, {2, 3, 3}, {4, 1, 4}, {10, 9, 10}, {8, 9, 9}, {math.MaxInt64 - 1, math.MaxInt64, math.MaxInt64}} {
		d := fresh(t, 20)
		lay(t, d, 0, plainHead(x.even))
		lay(t, d, 1, plainHead(x.odd))
		lay(t, d, 2, plainHalf(x.even, one))
		lay(t, d, 11, plainHalf(x.odd, two))
		want := one
		if x.gen == x.odd {
			want = two
		}
		wantState(t, open(t, d), x.gen, want)
	}
}

func TestP602GroupsThatAreThere(t *testing.T) {
	one, two := row(5), row(70)
	group := plainHalf(3, one, two)
	wrong := bytes.Clone(group)
	wrong[64*3+1] ^= 1
	padded := bytes.Clone(group)
	padded[64+60] = 1
	crc := int64(crc32.ChecksumIEEE(one))
	both := [][]byte{one, two}
	for i, x := range []struct {
		b    []byte
		want [][]byte
	}{
		{group, both}, {append(bytes.Clone(group), plainGroup(3, 2, nil)...), append(slices.Clone(both), nil)},
		{wrong, both[:1]}, {padded, nil}, {plainHalf(1, one, two), nil}, {plainHalf(5, one, two), nil}, {plainHalf(2, one, two), nil},
		{group[64:], nil}, {append(make([]byte, 64), group...), nil}, {plainGroup(3, 1, one), nil},
		{append(plainGroup(3, 0, one), plainGroup(3, 0, two)...), both[:1]}, {append(plainGroup(3, 0, one), plainGroup(3, 2, two)...), both[:1]},
		{append(plainGroup(3, 0, one), plainGroup(1, 1, two)...), both[:1]},
		{append(bytes.Clone(group[:128]), append(make([]byte, 64), plainGroup(3, 1, two)...)...), both[:1]},
		{append(plainMark(1, 3, 0, 5<<32|crc), group[64:]...), nil}, {append(plainMark(3, 3, 0, 5<<32|crc), group[64:]...), nil},
		{append(plainMark(2, 3, 0, 4<<32|crc), group[64:]...), nil}, {append(plainMark(2, 3, 0, 6<<32|crc), group[64:]...), nil},
		{append(plainMark(2, 3, 0, crc), group[64:]...), nil}, {append(plainMark(2, 3, 0, 5<<32|crc^1), group[64:]...), nil},
		{append(plainMark(2, 3, 0, math.MaxInt64), group[64:]...), nil}, {append(plainMark(2, 3, 0, math.MaxInt64&^(1<<32-1)), group[64:]...), nil},
		{append(plainMark(2, 3, 0, (api.MaxBytes+1)<<32), group[64:]...), nil},
		{append(append(bytes.Clone(group[:32]), plainGroup(1, 0, one)[:32]...), group[64:]...), nil},
	} {
		d := fresh(t, 20)
		lay(t, d, 1, plainHead(3))
		lay(t, d, 11, x.b)
		before := d.Done()
		wantState(t, open(t, d), 3, x.want...)
		if d.Done() != before {
			t.Errorf("%d: something was written", i)
		}
	}
}

func TestP602GroupsEndWithTheHalf(t *testing.T) {
	// Half 0 has 9 sectors: behind it the other one lies, whose sectors would go on.
	for take := range 20 {
		d := fresh(t, 20)
		lay(t, d, 0, plainHead(2))
		b := row(64 * take)
		s := append(plainHalf(2, b), plainGroup(2, 1, nil)...)
		if len(s) > 64*18 {
			s = s[:64*18]
		}
		lay(t, d, 2, s)
		switch {
		case take < 8:
			wantState(t, open(t, d), 2, b, nil)
		case take == 8:
			wantState(t, open(t, d), 2, b)
		default:
			wantState(t, open(t, d), 2)
		}
	}
	// The last half ends with the disk, or one sector ahead of its end.
	for _, sectors := range []int{20, 21} {
		d := fresh(t, sectors)
		lay(t, d, 1, plainHead(1))
		lay(t, d, 11, plainHalf(1, row(8*64)))
		if sectors == 21 {
			lay(t, d, 20, plainGroup(1, 1, nil))
		}
		wantState(t, open(t, d), 1, row(8*64))
		lay(t, d, 11, plainHalf(1, row(9*64))[:9*64])
		wantState(t, open(t, d), 1)
	}
	d := fresh(t, 21)
	lay(t, d, 1, plainHead(1))
	lay(t, d, 11, plainHalf(1, row(9*64)))
	wantState(t, open(t, d), 1)
}

func TestP602AnOlderJournalIsNotTaken(t *testing.T) {
	// The heads are gone, the groups of generation 1 are still there.
	d := fresh(t, 20)
	j := open(t, d)
	wantErr(t, "Append", j.Append(row(3)), api.OK)
	lay(t, d, 1, make([]byte, 64))
	wantState(t, open(t, d), 1)
}

func TestP603AppendLays(t *testing.T) {
	d := full(t, 40)
	j := open(t, d)
	var l [][]byte
	want := image(t, d)
	at := 21
	for i, n := range []int{0, 1, 63, 64, 65, 128, 0, 129} {
		b := row(n)
		l = append(l, b)
		s := plainGroup(1, int64(i), b)
		copy(want[64*at:], s)
		at += len(s) / 64
		copy(want[64*at:], make([]byte, 64))
		before := d.Done()
		wantErr(t, "Append", j.Append(b), api.OK)
		wantSectors(t, d, 0, want)
		if n := d.Done() - before; n != len(s)/64+3 || len(d.Waiting()) != 0 {
			t.Errorf("%d deeds, waiting %v", n, d.Waiting())
		}
		wantState(t, j, 1, l...)
		wantState(t, open(t, d), 1, l...)
	}
}

func TestP603AppendFillsTheRoom(t *testing.T) {
	// Of 9 sectors 3 are taken; then there is room for 6.
	for n := 4 * 64; n <= 7*64; n += 32 {
		d := full(t, 20)
		j := open(t, d)
		wantErr(t, "Append", j.Append(row(65)), api.OK)
		was, done := image(t, d), d.Done()
		e := j.Append(row(n))
		if n > 5*64 {
			wantErr(t, "Append", e, api.ErrFull)
			wantState(t, j, 1, row(65))
			wantSectors(t, d, 0, was)
			if d.Done() != done {
				t.Error("something was written")
			}
			wantErr(t, "Append", j.Append(row(64)), api.OK)
			continue
		}
		wantErr(t, "Append", e, api.OK)
		wantState(t, j, 1, row(65), row(n))
		copy(was[64*14:], plainGroup(1, 1, row(n)))
		if n <= 4*64 {
			clear(was[64*19:])
		}
		wantSectors(t, d, 0, was)
		wantState(t, open(t, d), 1, row(65), row(n))
	}
	// An empty group in the last sector: nothing is laid behind it, nor behind a half.
	for _, sectors := range []int{20, 21} {
		for _, gen := range []int64{1, 2} {
			d := full(t, sectors)
			j := open(t, d)
			if gen == 2 {
				wantErr(t, "Reset", j.Reset(), api.OK)
			}
			wantErr(t, "Append", j.Append(row(7*64)), api.OK)
			want := image(t, d)
			copy(want[64*(2+9*int(gen%2)+8):], plainGroup(gen, 1, nil))
			wantErr(t, "Append", j.Append(nil), api.OK)
			wantSectors(t, d, 0, want)
			wantState(t, open(t, d), gen, row(7*64), nil)
			wantErr(t, "Append", j.Append(nil), api.ErrFull)
		}
	}
}

// TestP603AppendInOrder holds what waits, wherever the power goes.
func TestP603AppendInOrder(t *testing.T) {
	for after, waits := range [][]int{{}, {14}, {14, 15}, {14, 15, 16}, {}, {13}} {
		d := fresh(t, 22)
		j := open(t, d)
		// Bytes first, and the sector of 0 behind them: those of a group ahead are not touched.
		wantErr(t, "Append", j.Append(nil), api.OK)
		d.Stop(after)
		wantErr(t, "Append", j.Append(row(65)), api.ErrDown)
		if l := d.Waiting(); !slices.Equal(l, waits) {
			t.Errorf("behind %d deeds: waiting %v, want %v", after, l, waits)
		}
		if !j.Down() || !sameGroups(j.Groups(), [][]byte{nil}) || j.Used() != 1 || j.Gen() != 1 {
			t.Errorf("behind %d deeds: %v %v %d %d", after, j.Down(), j.Groups(), j.Used(), j.Gen())
		}
	}
	d := fresh(t, 22)
	j := open(t, d)
	d.Stop(6)
	wantErr(t, "Append", j.Append(row(65)), api.OK)
	wantState(t, j, 1, row(65))
}

func TestP603ResetLays(t *testing.T) {
	d := full(t, 41)
	j := open(t, d)
	wantErr(t, "Append", j.Append(row(9)), api.OK)
	want := image(t, d)
	for i, l := range [][][]byte{{row(64), nil, row(65)}, {}, {nil}, {row(3)}, {row(1), row(2), row(3), row(4)}, {row(18 * 64)}, {row(8 * 64), row(9 * 64)}, nil} {
		gen := int64(i + 2)
		s := plainHalf(gen, l...)
		deeds := len(s)/64 + 3
		if len(s) < 19*64 {
			s = append(s, make([]byte, 64)...)
			deeds++
		}
		copy(want[64*(2+19*(gen%2)):], s)
		copy(want[64*(gen%2):], plainHead(gen))
		before := d.Done()
		wantErr(t, "Reset", j.Reset(l...), api.OK)
		wantSectors(t, d, 0, want)
		if n := d.Done() - before; n != deeds || len(d.Waiting()) != 0 {
			t.Errorf("%d deeds, want %d, waiting %v", n, deeds, d.Waiting())
		}
		wantState(t, j, gen, l...)
		wantState(t, open(t, d), gen, l...)
	}
}

// TestP603ResetInOrder holds what waits, wherever the power goes.
func TestP603ResetInOrder(t *testing.T) {
	for after, waits := range [][]int{{}, {2}, {2, 3}, {2, 3, 4}, {2, 3, 4, 5}, {}, {0}} {
		d := fresh(t, 22)
		j := open(t, d)
		wantErr(t, "Append", j.Append(row(7)), api.OK)
		d.Stop(after)
		wantErr(t, "Reset", j.Reset(row(64), nil), api.ErrDown)
		if l := d.Waiting(); len(l) != len(waits) || after > 4 && !slices.Equal(l, waits) {
			t.Errorf("behind %d deeds: waiting %v, want %v", after, l, waits)
		}
		if !j.Down() || !sameGroups(j.Groups(), [][]byte{row(7)}) || j.Used() != 2 || j.Gen() != 1 {
			t.Errorf("behind %d deeds: %v %v %d %d", after, j.Down(), j.Groups(), j.Used(), j.Gen())
		}
	}
	d := fresh(t, 22)
	j := open(t, d)
	d.Stop(7)
	wantErr(t, "Reset", j.Reset(row(64), nil), api.OK)
	wantState(t, j, 2, row(64), nil)
}

func TestP603ResetFillsTheRoom(t *testing.T) {
	d := full(t, 20)
	j := open(t, d)
	wantErr(t, "Append", j.Append(row(400)), api.OK)
	was, done := image(t, d), d.Done()
	for _, l := range [][][]byte{{row(8*64 + 1)}, {row(64), row(6*64 + 1)}, make([][]byte, 10), {nil, nil, row(7 * 64)}} {
		wantErr(t, "Reset", j.Reset(l...), api.ErrFull)
	}
	wantState(t, j, 1, row(400))
	wantSectors(t, d, 0, was)
	if d.Done() != done {
		t.Error("something was written")
	}
	// What was used does not count: it goes.
	for i, l := range [][][]byte{{row(8 * 64)}, {row(64), row(6 * 64)}, make([][]byte, 9), {nil, row(7 * 64)}} {
		wantErr(t, "Reset", j.Reset(l...), api.OK)
		wantState(t, j, int64(i+2), l...)
		wantState(t, open(t, d), int64(i+2), l...)
		wantErr(t, "Append", j.Append(nil), api.ErrFull)
	}
}

func TestP603ErrorsInOrder(t *testing.T) {
	long := make([]byte, api.MaxBytes+1)
	d := fresh(t, 20)
	j := open(t, d)
	done := d.Done()
	wantErr(t, "Append", j.Append(long), api.ErrArg)
	wantErr(t, "Append", j.Append(long[:api.MaxBytes]), api.ErrFull)
	wantErr(t, "Reset", j.Reset(long), api.ErrArg)
	wantErr(t, "Reset", j.Reset(long[:api.MaxBytes], nil, long), api.ErrArg)
	wantErr(t, "Reset", j.Reset(long[:api.MaxBytes], nil), api.ErrFull)
	// What can be told without the disk is told ahead of its power, while no call was answered ErrDown.
	d.Stop(0)
	wantErr(t, "Append", j.Append(long), api.ErrArg)
	wantErr(t, "Append", j.Append(row(600)), api.ErrFull)
	wantErr(t, "Reset", j.Reset(long), api.ErrArg)
	wantErr(t, "Reset", j.Reset(row(600)), api.ErrFull)
	wantState(t, j, 1)
	wantErr(t, "Append", j.Append(nil), api.ErrDown)
	for _, b := range [][]byte{nil, row(3), row(600), long} {
		wantErr(t, "Append", j.Append(b), api.ErrDown)
		wantErr(t, "Reset", j.Reset(b), api.ErrDown)
	}
	if !j.Down() || d.Done() != done {
		t.Error(j.Down(), d.Done()-done)
	}
}

func TestP603DownStaysSo(t *testing.T) {
	for _, reset := range []bool{false, true} {
		d := fresh(t, 20)
		j := open(t, d)
		wantErr(t, "Append", j.Append(row(3)), api.OK)
		d.Stop(2)
		if reset {
			wantErr(t, "Reset", j.Reset(row(70)), api.ErrDown)
		} else {
			wantErr(t, "Append", j.Append(row(70)), api.ErrDown)
		}
		d.Crash(1, 1, 1)
		done := d.Done()
		wantErr(t, "Append", j.Append(nil), api.ErrDown)
		wantErr(t, "Reset", j.Reset(), api.ErrDown)
		if !j.Down() || d.Done() != done || j.Room() != 9 || j.Used() != 2 || j.Gen() != 1 || !sameGroups(j.Groups(), [][]byte{row(3)}) {
			t.Error(j.Down(), d.Done()-done, j.Room(), j.Used(), j.Gen(), j.Groups())
		}
		k := open(t, d)
		wantErr(t, "Append", k.Append(row(70)), api.OK)
		wantState(t, k, 1, row(3), row(70))
	}
}

func TestP603TheLongest(t *testing.T) {
	d := fresh(t, 40000)
	j := open(t, d)
	b := row(api.MaxBytes + 1)
	wantErr(t, "Append", j.Append(b), api.ErrArg)
	wantErr(t, "Append", j.Append(b[:api.MaxBytes]), api.OK)
	wantErr(t, "Append", j.Append(b[1:]), api.ErrFull)
	wantState(t, open(t, d), 1, b[:api.MaxBytes])
	wantErr(t, "Reset", j.Reset(b), api.ErrArg)
	wantErr(t, "Reset", j.Reset(nil, b[1:]), api.OK)
	wantState(t, open(t, d), 2, nil, b[1:])
}

func TestP603TheLastGeneration(t *testing.T) {
	d := fresh(t, 20)
	lay(t, d, 0, plainHead(math.MaxInt64-1))
	j := open(t, d)
	wantErr(t, "Reset", j.Reset(row(3)), api.OK)
	wantState(t, j, math.MaxInt64, row(3))
	done := d.Done()
	wantErr(t, "Reset", j.Reset(row(4)), api.ErrFull)
	wantState(t, j, math.MaxInt64, row(3))
	if d.Done() != done {
		t.Error("something was written")
	}
	wantErr(t, "Append", j.Append(row(5)), api.OK)
	wantState(t, open(t, d), math.MaxInt64, row(3), row(5))
}

func TestP604Takes(t *testing.T) {
	for _, x := range []struct{ n, want int }{{0, 1}, {1, 2}, {63, 2}, {64, 2}, {65, 3}, {128, 3}, {129, 4}, {api.MaxBytes, 16385}, {api.MaxBytes + 1, 16386}} {
		b := make([]byte, x.n)
		if n := Takes(b); n != x.want || Takes(b, nil, b) != 2*n+1 {
			t.Errorf("Takes of %d bytes = %d, and %d; want %d", x.n, n, Takes(b, nil, b), x.want)
		}
	}
	if n := Takes(); n != 0 {
		t.Errorf("Takes() = %d", n)
	}
	if n := Takes(nil); n != 1 {
		t.Errorf("Takes(nil) = %d", n)
	}
}

func TestP604Room(t *testing.T) {
	for _, x := range []struct{ sectors, room int }{{8, 3}, {9, 3}, {10, 4}, {11, 4}, {20, 9}, {21, 9}, {api.MaxSectors - 1, 32766}, {api.MaxSectors, 32767}} {
		d := fresh(t, x.sectors)
		j := open(t, d)
		if j.Room() != x.room {
			t.Errorf("of %d sectors: %d, want %d", x.sectors, j.Room(), x.room)
		}
		all := make([][]byte, x.room)
		wantErr(t, "Reset", j.Reset(append(all, nil)...), api.ErrFull)
		for gen := range int64(2) {
			wantErr(t, "Reset", j.Reset(all...), api.OK)
			wantState(t, j, gen+2, all...)
			wantState(t, open(t, d), gen+2, all...)
		}
		if j.Room() != x.room || j.Used() != x.room {
			t.Error(j.Room(), j.Used())
		}
	}
}

func TestP604ToldWithoutPower(t *testing.T) {
	d := fresh(t, 20)
	j := open(t, d)
	wantErr(t, "Append", j.Append(row(65)), api.OK)
	wantErr(t, "Append", j.Append(nil), api.OK)
	d.Stop(0)
	wantState(t, j, 1, row(65), nil)
	if j.Room() != 9 || j.Used() != 4 {
		t.Error(j.Room(), j.Used())
	}
	d.Crash()
	wantErr(t, "Append", j.Append(row(1)), api.OK)
	wantState(t, open(t, d), 1, row(65), nil, row(1))
}

func TestP604JournalsAreApart(t *testing.T) {
	d := fresh(t, 20)
	j := open(t, d)
	wantErr(t, "Append", j.Append(row(3)), api.OK)
	c := d.Clone()
	k := open(t, c)
	wantErr(t, "Append", j.Append(row(4)), api.OK)
	wantErr(t, "Reset", k.Reset(row(5)), api.OK)
	wantState(t, j, 1, row(3), row(4))
	wantState(t, k, 2, row(5))
	wantState(t, open(t, d), 1, row(3), row(4))
	wantState(t, open(t, c), 2, row(5))
}
