package disk

import (
	"bytes"
	"math"
	"math/rand"
	"slices"
	"testing"

	"treadmill/api"
)

// full tells a sector's bytes, all alike.
func full(x byte) []byte {
	return bytes.Repeat([]byte{x}, api.Sector)
}

// torn tells a sector's bytes, each half alike.
func torn(x, y byte) []byte {
	return append(full(x)[:32], full(y)[:32]...)
}

func fresh(t *testing.T, sectors int) *Disk {
	t.Helper()
	d, e := New(sectors)
	if d == nil || e != api.OK {
		t.Fatalf("New(%d) = %v, %v", sectors, d, e)
	}
	return d
}

func write(t *testing.T, d *Disk, i int, b []byte) {
	t.Helper()
	if e := d.Write(i, b); e != api.OK {
		t.Fatalf("Write(%d) = %v", i, e)
	}
}

func sync(t *testing.T, d *Disk) {
	t.Helper()
	if e := d.Sync(); e != api.OK {
		t.Fatalf("Sync = %v", e)
	}
}

func wantRead(t *testing.T, d *Disk, i int, want []byte) {
	t.Helper()
	if b, e := d.Read(i); e != api.OK || !bytes.Equal(b, want) {
		t.Errorf("Read(%d) = %v, %v, want %v", i, b, e, want)
	}
}

func wantWaiting(t *testing.T, d *Disk, want ...int) {
	t.Helper()
	if l := d.Waiting(); !slices.Equal(l, want) {
		t.Errorf("Waiting = %v, want %v", l, want)
	}
}

func TestP401DiskThatNewDidNotMake(t *testing.T) {
	for _, d := range []*Disk{nil, {}} {
		d.Stop(3)
		d.Stop(0)
		d.Crash()
		d.Crash(1, 2)
		if d.Sectors() != 0 || d.Done() != 0 || !d.Down() || len(d.Waiting()) != 0 || d.Clone() != nil {
			t.Errorf("%v: %d %d %v %v %v", d, d.Sectors(), d.Done(), d.Down(), d.Waiting(), d.Clone())
		}
		for _, i := range []int{-1, 0, 1} {
			if b, e := d.Read(i); len(b) != 0 || e != api.ErrArg {
				t.Errorf("Read(%d) = %v, %v", i, b, e)
			}
			if e := d.Write(i, full(1)); e != api.ErrArg {
				t.Errorf("Write(%d) = %v", i, e)
			}
		}
		if e := d.Sync(); e != api.ErrArg {
			t.Errorf("Sync = %v", e)
		}
		if !d.Down() || d.Done() != 0 {
			t.Error("the calls changed it")
		}
	}
}

func TestP401WhatIsHandedInIsCopied(t *testing.T) {
	d := fresh(t, 2)
	room := make([]byte, 200)
	b := room[:api.Sector]
	for i := range room {
		room[i] = byte(i)
	}
	was := bytes.Clone(room)
	write(t, d, 0, b)
	wantRead(t, d, 0, was[:api.Sector])
	sync(t, d)
	write(t, d, 1, b)
	d.Crash(1)
	if !bytes.Equal(room, was) {
		t.Error("what was handed in was changed")
	}
	clear(room)
	wantRead(t, d, 0, was[:api.Sector])
	wantRead(t, d, 1, was[:api.Sector])
	fates := []int{1, 9, 7}
	write(t, d, 0, full(3))
	d.Crash(fates[:2]...)
	if !slices.Equal(fates, []int{1, 9, 7}) {
		t.Error("the fates were changed")
	}
}

func TestP401WhatIsToldIsNew(t *testing.T) {
	d := fresh(t, 2)
	write(t, d, 0, full(1))
	sync(t, d)
	write(t, d, 1, full(2))
	for i := range 2 {
		b, _ := d.Read(i)
		b = b[:cap(b)]
		for k := range b {
			b[k] = 77
		}
		wantRead(t, d, i, full(byte(i+1)))
	}
	l := d.Waiting()
	l[0] = 0
	wantWaiting(t, d, 1)
}

func TestP402New(t *testing.T) {
	for _, n := range []int{math.MinInt, -1, 0, api.MaxSectors + 1, math.MaxInt} {
		if d, e := New(n); d != nil || e != api.ErrArg {
			t.Errorf("New(%d) = %v, %v", n, d, e)
		}
	}
	for _, n := range []int{1, 2, 65, api.MaxSectors} {
		d := fresh(t, n)
		if d.Sectors() != n || d.Down() || d.Done() != 0 {
			t.Errorf("New(%d): %d %v %d", n, d.Sectors(), d.Down(), d.Done())
		}
		wantWaiting(t, d)
		wantRead(t, d, 0, full(0))
		wantRead(t, d, n-1, full(0))
		write(t, d, n-1, full(5))
		wantRead(t, d, n-1, full(5))
	}
}

func TestP402WriteOfNoSectorOrWrongLength(t *testing.T) {
	d := fresh(t, 3)
	for _, i := range []int{math.MinInt, -1, 3, 4, math.MaxInt} {
		if e := d.Write(i, full(1)); e != api.ErrArg {
			t.Errorf("Write(%d) = %v", i, e)
		}
	}
	for _, b := range [][]byte{nil, {}, {1}, make([]byte, 32), make([]byte, 63), make([]byte, 65), make([]byte, 128)} {
		if e := d.Write(1, b); e != api.ErrArg {
			t.Errorf("Write of %d bytes = %v", len(b), e)
		}
	}
	wantWaiting(t, d)
	wantRead(t, d, 1, full(0))
	if d.Done() != 0 || d.Down() {
		t.Error("a write that was refused is no deed")
	}
}

func TestP402Read(t *testing.T) {
	d := fresh(t, 3)
	for _, i := range []int{math.MinInt, -1, 3, math.MaxInt} {
		if b, e := d.Read(i); len(b) != 0 || e != api.ErrArg {
			t.Errorf("Read(%d) = %v, %v", i, b, e)
		}
	}
	write(t, d, 1, full(1))
	wantRead(t, d, 1, full(1))
	write(t, d, 1, full(2))
	wantRead(t, d, 1, full(2))
	wantRead(t, d, 0, full(0))
	wantRead(t, d, 2, full(0))
	sync(t, d)
	wantRead(t, d, 1, full(2))
	write(t, d, 1, full(3))
	wantRead(t, d, 1, full(3))
	if d.Done() != 4 {
		t.Errorf("Done = %d: a read is no deed", d.Done())
	}
}

func TestP402SyncMakesAllSafe(t *testing.T) {
	d := fresh(t, 8)
	for i := range 8 {
		write(t, d, i, full(byte(i+1)))
	}
	sync(t, d)
	wantWaiting(t, d)
	d.Crash(0, 0, 0, 0)
	for i := range 8 {
		wantRead(t, d, i, full(byte(i+1)))
	}
}

func TestP402OffRefusesAllFirst(t *testing.T) {
	d := fresh(t, 2)
	write(t, d, 1, full(1))
	d.Stop(0)
	for _, i := range []int{-1, 0, 1, 2} {
		if b, e := d.Read(i); len(b) != 0 || e != api.ErrDown {
			t.Errorf("Read(%d) = %v, %v", i, b, e)
		}
		for _, b := range [][]byte{nil, {1}, full(2)} {
			if e := d.Write(i, b); e != api.ErrDown {
				t.Errorf("Write(%d) = %v", i, e)
			}
		}
	}
	if e := d.Sync(); e != api.ErrDown {
		t.Errorf("Sync = %v", e)
	}
	wantWaiting(t, d, 1)
	if d.Done() != 1 || d.Sectors() != 2 {
		t.Errorf("Done = %d, Sectors = %d", d.Done(), d.Sectors())
	}
	d.Crash(1)
	wantRead(t, d, 0, full(0))
	wantRead(t, d, 1, full(1))
}

func TestP403StopAtOnce(t *testing.T) {
	for _, after := range []int{math.MinInt, -1, 0} {
		d := fresh(t, 2)
		d.Stop(after)
		if !d.Down() {
			t.Errorf("Stop(%d): it is on", after)
		}
		if e := d.Write(0, full(1)); e != api.ErrDown {
			t.Errorf("Stop(%d): Write = %v", after, e)
		}
		d.Crash()
		if d.Down() {
			t.Error("off behind a crash")
		}
		write(t, d, 0, full(1))
	}
}

func TestP403StopAfterDeeds(t *testing.T) {
	for after := 1; after < 9; after++ {
		d := fresh(t, 4)
		sync(t, d)
		d.Stop(after)
		for n := range after {
			e := api.OK
			if n%2 == 0 {
				e = d.Write(n%4, full(byte(n+1)))
			} else {
				e = d.Sync()
			}
			if e != api.OK || d.Down() || d.Done() != n+2 {
				t.Fatalf("Stop(%d), deed %d: %v %v %d", after, n, e, d.Down(), d.Done())
			}
			// What is no deed brings the end no nearer.
			d.Read(0)
			d.Write(4, full(1))
			d.Write(0, nil)
		}
		if d.Down() {
			t.Errorf("Stop(%d): off ahead of the deed at which it goes", after)
		}
		waits := d.Waiting()
		if e := d.Write(3, full(99)); e != api.ErrDown || !d.Down() {
			t.Errorf("Stop(%d): the deed behind them = %v", after, e)
		}
		if e := d.Write(3, full(99)); e != api.ErrDown {
			t.Errorf("Stop(%d): the second one behind them = %v", after, e)
		}
		wantWaiting(t, d, waits...)
		if d.Done() != after+1 {
			t.Errorf("Done = %d", d.Done())
		}
		d.Crash(1, 1, 1, 1)
		if b, _ := d.Read(3); b[0] == 99 {
			t.Error("a write that was refused is there")
		}
	}
}

func TestP403WrongWriteIsNotTheDeedAtWhichPowerGoes(t *testing.T) {
	d := fresh(t, 1)
	d.Stop(1)
	write(t, d, 0, full(1))
	if e := d.Write(1, full(1)); e != api.ErrArg || d.Down() {
		t.Errorf("Write = %v, Down = %v", e, d.Down())
	}
	if e := d.Write(0, full(1)[:63]); e != api.ErrArg || d.Down() {
		t.Errorf("Write = %v, Down = %v", e, d.Down())
	}
	wantRead(t, d, 0, full(1))
}

func TestP403PowerGoesAtSync(t *testing.T) {
	d := fresh(t, 4)
	write(t, d, 0, full(1))
	sync(t, d)
	d.Stop(2)
	write(t, d, 0, full(2))
	write(t, d, 3, full(3))
	if e := d.Sync(); e != api.ErrDown || !d.Down() || d.Done() != 4 {
		t.Errorf("Sync = %v, Down = %v, Done = %d", e, d.Down(), d.Done())
	}
	wantWaiting(t, d, 0, 3)
	d.Crash()
	wantWaiting(t, d)
	wantRead(t, d, 0, full(1))
	wantRead(t, d, 3, full(0))
}

func TestP403StopAgain(t *testing.T) {
	d := fresh(t, 1)
	d.Stop(1)
	d.Stop(3)
	for range 3 {
		sync(t, d)
	}
	if e := d.Sync(); e != api.ErrDown {
		t.Errorf("Sync = %v", e)
	}
	d.Stop(5)
	if e := d.Sync(); e != api.ErrDown || !d.Down() {
		t.Errorf("Stop brought the power back: %v", e)
	}
	d.Crash()
	for range 9 {
		sync(t, d)
	}
	d.Stop(5)
	d.Stop(1)
	sync(t, d)
	if e := d.Sync(); e != api.ErrDown {
		t.Errorf("Sync = %v", e)
	}
	d.Crash()
	d.Stop(math.MaxInt)
	sync(t, d)
	sync(t, d)
	if d.Down() {
		t.Error("off long ahead of its time")
	}
}

func TestP403CrashEndsStop(t *testing.T) {
	d := fresh(t, 2)
	d.Stop(2)
	write(t, d, 0, full(1))
	d.Crash(1)
	for i := range 9 {
		write(t, d, 1, full(byte(i)))
	}
	if d.Down() || d.Done() != 10 {
		t.Errorf("Down = %v, Done = %d", d.Down(), d.Done())
	}
}

func TestP403Fates(t *testing.T) {
	want := map[int][]byte{
		0: full(7), 1: full(9), 2: torn(9, 7), 3: torn(7, 9),
		4: full(7), 5: full(9), 6: torn(9, 7), 7: torn(7, 9),
		-1: torn(7, 9), -2: torn(9, 7), -3: full(9), -4: full(7), -5: torn(7, 9),
		math.MaxInt: torn(7, 9), math.MinInt: full(7), math.MinInt + 1: full(9),
	}
	for fate, w := range want {
		d := fresh(t, 1)
		write(t, d, 0, full(7))
		sync(t, d)
		write(t, d, 0, full(8))
		write(t, d, 0, full(9))
		d.Crash(fate)
		wantRead(t, d, 0, w)
		wantWaiting(t, d)
		// What the first crash left is safe.
		d.Crash(1)
		wantRead(t, d, 0, w)
		if d.Done() != 4 {
			t.Errorf("Done = %d: a crash is no deed", d.Done())
		}
	}
}

func TestP403FatesAreOfTheSectorsThatWaitRising(t *testing.T) {
	d := fresh(t, 9)
	for _, i := range []int{8, 3, 0, 5, 3} {
		write(t, d, i, full(byte(i+1)))
	}
	wantWaiting(t, d, 0, 3, 5, 8)
	d.Crash(1, 2, 3)
	want := [][]byte{full(1), full(0), full(0), torn(4, 0), full(0), torn(0, 6), full(0), full(0), full(0)}
	for i, w := range want {
		wantRead(t, d, i, w)
	}
	write(t, d, 7, full(4))
	d.Crash(1, 0, 0, 0, 0, 0, 0, 0, 0, 0)
	wantRead(t, d, 7, full(4))
	wantRead(t, d, 0, full(1))
}

func TestP403SameBytesWaitToo(t *testing.T) {
	d := fresh(t, 2)
	write(t, d, 1, full(0))
	wantWaiting(t, d, 1)
	sync(t, d)
	wantWaiting(t, d)
}

func TestP403CloneIsApart(t *testing.T) {
	d := fresh(t, 3)
	write(t, d, 0, full(1))
	sync(t, d)
	write(t, d, 1, full(2))
	d.Stop(2)
	c := d.Clone()
	if c.Sectors() != 3 || c.Done() != 3 || c.Down() {
		t.Errorf("%d %d %v", c.Sectors(), c.Done(), c.Down())
	}
	wantWaiting(t, c, 1)
	wantRead(t, c, 0, full(1))
	wantRead(t, c, 1, full(2))
	write(t, c, 2, full(3))
	sync(t, c)
	wantWaiting(t, d, 1)
	wantRead(t, d, 2, full(0))
	if d.Done() != 3 || c.Done() != 5 {
		t.Errorf("Done = %d, %d", d.Done(), c.Done())
	}
	if e := c.Sync(); e != api.ErrDown || d.Down() {
		t.Errorf("Sync = %v, Down of the first one = %v", e, d.Down())
	}
	off := c.Clone()
	if !off.Down() || off.Sync() != api.ErrDown {
		t.Error("the clone of one whose power is off is on")
	}
	d.Crash()
	wantRead(t, d, 0, full(1))
	wantRead(t, d, 1, full(0))
	c.Crash()
	wantRead(t, c, 1, full(2))
	wantRead(t, c, 2, full(3))
	if !off.Down() {
		t.Error("a crash of the first one reached its clone")
	}
}

// plain is a disk told in the plainest way: all states a sector has, side by side.
type plain struct {
	safe, wait [][]byte
	left, done int
	off        bool
}

func (p *plain) deed() bool {
	if p.off || p.left == 0 {
		p.off = true
		return false
	}
	p.left--
	p.done++
	return true
}

func (p *plain) crash(fates []int) {
	for i, w := range p.wait {
		if w == nil {
			continue
		}
		fate := 0
		if len(fates) > 0 {
			fate, fates = fates[0], fates[1:]
		}
		old := p.safe[i]
		p.safe[i] = [][]byte{old, w, append(bytes.Clone(w[:32]), old[32:]...), append(bytes.Clone(old[:32]), w[32:]...)}[((fate%4)+4)%4]
		p.wait[i] = nil
	}
	p.off, p.left = false, math.MaxInt
}

func (p *plain) step(t *testing.T, d *Disk, r *rand.Rand) {
	t.Helper()
	switch r.Intn(8) {
	case 0, 1, 2, 3:
		i, b := r.Intn(len(p.safe)), make([]byte, api.Sector)
		r.Read(b)
		want := api.ErrDown
		if p.deed() {
			want, p.wait[i] = api.OK, b
		}
		if e := d.Write(i, bytes.Clone(b)); e != want {
			t.Fatalf("Write = %v, want %v", e, want)
		}
	case 4, 5:
		want := api.ErrDown
		if p.deed() {
			want = api.OK
			for i, w := range p.wait {
				if w != nil {
					p.safe[i], p.wait[i] = w, nil
				}
			}
		}
		if e := d.Sync(); e != want {
			t.Fatalf("Sync = %v, want %v", e, want)
		}
	case 6:
		n := r.Intn(12)
		d.Stop(n)
		p.left, p.off = n, p.off || n == 0
	case 7:
		fates := make([]int, r.Intn(6))
		for i := range fates {
			fates[i] = r.Intn(16) - 8
		}
		p.crash(fates)
		d.Crash(fates...)
	}
}

func (p *plain) compare(t *testing.T, d *Disk) {
	t.Helper()
	if d.Down() != p.off || d.Done() != p.done || d.Sectors() != len(p.safe) {
		t.Fatalf("Down = %v, Done = %d, want %v, %d", d.Down(), d.Done(), p.off, p.done)
	}
	var waits []int
	for i, w := range p.wait {
		want := p.safe[i]
		if w != nil {
			want = w
			waits = append(waits, i)
		}
		b, e := d.Read(i)
		if p.off && (e != api.ErrDown || len(b) != 0) || !p.off && (e != api.OK || !bytes.Equal(b, want)) {
			t.Fatalf("Read(%d) = %v, %v, want %v", i, b, e, want)
		}
	}
	wantWaiting(t, d, waits...)
}

func TestP403LikeThePlainestDisk(t *testing.T) {
	for seed := range 200 {
		r := rand.New(rand.NewSource(int64(seed)))
		n := 1 + r.Intn(6)
		d := fresh(t, n)
		p := &plain{wait: make([][]byte, n), left: math.MaxInt}
		for range n {
			p.safe = append(p.safe, full(0))
		}
		for k := range 120 {
			p.step(t, d, r)
			p.compare(t, d)
			if k%20 == 7 {
				d = d.Clone()
			}
		}
	}
}

func TestP404WhatWasSyncedOutlastsAnyCrash(t *testing.T) {
	for fate := -4; fate < 8; fate++ {
		d := fresh(t, 4)
		for i := range 4 {
			write(t, d, i, full(byte(i+1)))
		}
		sync(t, d)
		write(t, d, 2, full(9))
		d.Stop(0)
		d.Crash(fate, fate, fate, fate)
		wantRead(t, d, 0, full(1))
		wantRead(t, d, 1, full(2))
		wantRead(t, d, 3, full(4))
		b, _ := d.Read(2)
		if !slices.ContainsFunc([][]byte{full(3), full(9), torn(9, 3), torn(3, 9)}, func(l []byte) bool { return bytes.Equal(l, b) }) {
			t.Errorf("fate %d: %v", fate, b)
		}
	}
}

func TestP404WriteThenCrashOfFateTwo(t *testing.T) {
	d := fresh(t, 1)
	b := make([]byte, api.Sector)
	for i := range b {
		b[i] = byte(i + 1)
	}
	write(t, d, 0, b)
	d.Crash(2)
	wantRead(t, d, 0, append(b[:32:32], make([]byte, 32)...))
}
