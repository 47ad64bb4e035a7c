package journal

import (
	"iter"

	"treadmill/api"
	"treadmill/disk"
	"treadmill/frame"
	"treadmill/sums"
)

// Kinds of marks.
const (
	headKind  = 1
	groupKind = 2
)

// heads is how many sectors lie ahead of the halves, a head in each; halves is how many there are.
const (
	heads  = 2
	halves = 2
)

// lengthBits is where a group's length stands in the number of its mark, above its sum.
const lengthBits = 32

// half of a disk: the one of a generation. Places in it count from its first sector on.
type half struct {
	*disk.Disk
	gen int64
}

// newest tells the half whose head counts; false, if there is no head.
func newest(d *disk.Disk) (half, bool) {
	n := half{Disk: d}
	for i := range heads {
		h := half{d, n.headIn(i)}
		if h.gen > n.gen {
			n = h
		}
	}
	return n, n.gen > 0
}

// headIn tells the generation of the head in a sector; 0, if none is there.
func (h half) headIn(i int) int64 {
	s, _ := h.Read(i)
	m, _ := frame.Get(s)
	if m != head(m.Gen) || place(m.Gen) != i {
		return 0
	}
	return m.Gen
}

// head tells the mark that a generation's head is.
func head(gen int64) frame.Mark {
	return frame.Mark{Kind: headKind, Gen: gen}
}

// place tells which head, and which half, is a generation's.
func place(gen int64) int {
	return int(gen % halves)
}

func (h half) room() int {
	return (h.Sectors() - heads) / halves
}

// sector tells which of the disk's sectors is at a place of the half.
func (h half) sector(at int) int {
	return heads + place(h.gen)*h.room() + at
}

// groups yields the groups that stand in the half, in order.
func (h half) groups() iter.Seq[[]byte] {
	return func(yield func([]byte) bool) {
		at := 0
		for seq := 0; ; seq++ {
			b, ok := h.group(at, seq)
			if !ok || !yield(b) {
				return
			}
			at += Takes(b)
		}
	}
}

// group tells the group that stands at a place, with that number; false, if none does that is whole.
func (h half) group(at, seq int) ([]byte, bool) {
	s, _ := h.Read(h.sector(at))
	m, ok := frame.Get(s)
	n := int(m.N >> lengthBits)
	// What does not fit the half, its mark with it, is no group of it, whatever stands behind the half.
	if !ok || frame.Need(n) >= h.room()-at {
		return nil, false
	}
	b, ok := frame.Unpack(h.read(at+1, frame.Need(n)), n)
	if !ok || m != h.mark(seq, b) {
		return nil, false
	}
	return b, true
}

// mark tells the mark of a group with that number.
func (h half) mark(seq int, b []byte) frame.Mark {
	n := int64(len(b))<<lengthBits | int64(sums.Crc(b))
	return frame.Mark{Kind: groupKind, Gen: h.gen, Seq: int64(seq), N: n}
}

// read tells n sectors, from a place on.
func (h half) read(at, n int) [][]byte {
	l := make([][]byte, n)
	for i := range l {
		l[i], _ = h.Read(h.sector(at + i))
	}
	return l
}

// begin lays groups from the half's first sector on; they count once its head is there.
func (h half) begin(l ...[]byte) api.Errno {
	var s [][]byte
	for seq, b := range l {
		s = append(s, h.laid(seq, b)...)
	}
	s = append(s, h.end(len(s))...)
	if e := h.keep(h.sector(0), s...); e != api.OK {
		return e
	}
	return h.keep(place(h.gen), frame.Put(head(h.gen)))
}

// extend lays a group at a place; it counts once its mark is there.
func (h half) extend(at, seq int, b []byte) api.Errno {
	s := h.laid(seq, b)
	behind := append(s[1:], h.end(at+len(s))...)
	if e := h.keep(h.sector(at+1), behind...); e != api.OK {
		return e
	}
	return h.keep(h.sector(at), s[0])
}

// laid tells a group's sectors: its mark's, and behind it those of its bytes.
func (h half) laid(seq int, b []byte) [][]byte {
	return append([][]byte{frame.Put(h.mark(seq, b))}, frame.Pack(b)...)
}

// end tells the sector of 0 that is laid at a place behind the last group, lest what stood there is taken for one more; none, if there is no room.
func (h half) end(at int) [][]byte {
	if at >= h.room() {
		return nil
	}
	return [][]byte{make([]byte, api.Sector)}
}

// keep writes sectors, from one of the disk's on, and makes them safe.
func (h half) keep(i int, l ...[]byte) api.Errno {
	for k, s := range l {
		if e := h.Write(i+k, s); e != api.OK {
			return e
		}
	}
	return h.Sync()
}
