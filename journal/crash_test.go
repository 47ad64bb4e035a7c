package journal

import (
	"bytes"
	"math/rand"
	"slices"
	"testing"

	"treadmill/api"
	"treadmill/disk"
	"treadmill/frame"
)

// markIn tells bytes whose sectors all are a mark's: a group that holds what would be one more, if it stood at the right place.
func markIn(gen, seq int64, sectors int) []byte {
	return bytes.Repeat(frame.Put(frame.Mark{Kind: 2, Gen: gen, Seq: seq}), sectors)
}

// act is a call that writes: a Reset to groups, or an Append of the only one.
type act struct {
	reset bool
	l     [][]byte
}

func (a act) do(j *Journal) api.Errno {
	if a.reset {
		return j.Reset(a.l...)
	}
	return j.Append(a.l[0])
}

// behind tells the groups that are there once the call is through.
func (a act) behind(l [][]byte) [][]byte {
	if a.reset {
		return a.l
	}
	return append(slices.Clone(l), a.l[0])
}

func appended(b []byte) act {
	return act{false, [][]byte{b}}
}

func resetTo(l ...[]byte) act {
	return act{true, l}
}

// everyFate goes through the fates of so many sectors: all, or, if these are too many, some of a short rule.
func everyFate(n int, yield func(fates []int)) {
	fates := make([]int, n)
	if n <= 5 {
		for x := range 1 << (2 * n) {
			for i := range fates {
				fates[i] = x >> (2 * i)
			}
			yield(fates)
		}
		return
	}
	r := rand.New(rand.NewSource(int64(n)))
	for x := range 400 {
		for i := range fates {
			fates[i] = r.Intn(4)
			if x < 4 {
				fates[i] = x
			}
		}
		yield(fates)
	}
}

// mustBeOneOf holds a disk, behind a crash, to a journal that has the groups ahead of an act, or those behind it, and holds it so, opened once more.
func mustBeOneOf(t *testing.T, d *disk.Disk, ahead, behind [][]byte) [][]byte {
	t.Helper()
	done := d.Done()
	got := open(t, d).Groups()
	if !sameGroups(got, ahead) && !sameGroups(got, behind) {
		t.Fatalf("groups %s, want %s or %s", short(got), short(ahead), short(behind))
	}
	if again := open(t, d).Groups(); !sameGroups(again, got) {
		t.Fatalf("opened once more: %s, want %s", short(again), short(got))
	}
	if d.Done() != done {
		t.Fatal("a head is there, and something was written")
	}
	d.Crash(1, 2, 3)
	if again := open(t, d).Groups(); !sameGroups(again, got) {
		t.Fatalf("behind one more crash: %s, want %s", short(again), short(got))
	}
	return got
}

// crashes does an act on a disk, the power going at each of its deeds, with every fate, and tells the disks that are left, and how often the act was not there, and there.
func crashes(t *testing.T, d *disk.Disk, ahead [][]byte, a act, yield func(d *disk.Disk, l [][]byte)) (not, there int) {
	t.Helper()
	behind := a.behind(ahead)
	for after := 0; ; after++ {
		c := d.Clone()
		j := open(t, c)
		c.Stop(after)
		if e := a.do(j); e == api.OK {
			c.Crash()
			if got := mustBeOneOf(t, c, behind, behind); yield != nil {
				yield(c, got)
			}
			return not, there
		} else if e != api.ErrDown || !c.Down() {
			t.Fatalf("behind %d deeds: %v, the power is off: %v", after, e, c.Down())
		}
		everyFate(len(c.Waiting()), func(fates []int) {
			f := c.Clone()
			f.Crash(fates...)
			got := mustBeOneOf(t, f, ahead, behind)
			if sameGroups(got, ahead) {
				not++
			} else {
				there++
			}
			if yield != nil {
				yield(f, got)
			}
		})
	}
}

// states are disks with a journal, each with its groups.
func states(t *testing.T, yield func(d *disk.Disk, l [][]byte)) {
	t.Helper()
	for _, sectors := range []int{20, 21} {
		for _, acts := range [][]act{
			{},
			{appended(nil)},
			{appended(row(65))},
			{appended(row(1)), appended(row(64))},
			{resetTo()},
			{resetTo(nil, row(3))},
			{appended(markIn(3, 1, 6)), resetTo(row(70)), resetTo(nil)},
			{appended(markIn(1, 1, 7))},
			{appended(row(300)), resetTo(markIn(4, 1, 6)), resetTo(), resetTo(nil)},
			{appended(markIn(3, 0, 3)), resetTo(row(1)), resetTo()},
		} {
			d := full(t, sectors)
			j := open(t, d)
			var l [][]byte
			for _, a := range acts {
				wantErr(t, "act", a.do(j), api.OK)
				l = a.behind(l)
			}
			if got := j.Groups(); !sameGroups(got, l) {
				t.Fatalf("groups %s, want %s", short(got), short(l))
			}
			yield(d, l)
		}
	}
}

func TestP605Example(t *testing.T) {
	d := fresh(t, 20)
	j := open(t, d)
	d.Stop(4)
	wantErr(t, "Append", j.Append([]byte{1}), api.ErrDown)
	if l := d.Waiting(); !slices.Equal(l, []int{11}) {
		t.Fatal(l)
	}
	for fate, want := range [][][]byte{nil, {{1}}, nil, nil} {
		c := d.Clone()
		c.Crash(fate)
		wantState(t, open(t, c), 1, want...)
	}
}

func TestP605EveryCrash(t *testing.T) {
	states(t, func(d *disk.Disk, l [][]byte) {
		room := 9 - Takes(l...)
		var acts []act
		for _, b := range [][]byte{nil, row(5), row(64), row(130), markIn(1, 2, 2), row((room - 1) * 64)} {
			if Takes(b) <= room {
				acts = append(acts, appended(b))
			}
		}
		acts = append(acts, resetTo(), resetTo(nil), resetTo(row(65), nil), resetTo(row(8*64)), resetTo(l...))
		for _, a := range acts {
			not, there := crashes(t, d, l, a, nil)
			if not == 0 || there == 0 && !sameGroups(l, a.behind(l)) {
				t.Errorf("reset %v, %s: not there %d times, there %d times", a.reset, short(a.l), not, there)
			}
		}
	})
}

// TestP605CrashBehindCrash goes on from each disk that a crash left: torn sectors are written anew, and torn once more.
func TestP605CrashBehindCrash(t *testing.T) {
	pairs := [][2]act{
		{appended(row(3)), appended(row(3))},
		{appended(row(3)), appended([]byte{1, 2, 3})},
		{appended(markIn(1, 1, 3)), appended(nil)},
		{appended(row(65)), resetTo(nil)},
		{resetTo(row(3)), resetTo(row(4))},
		{resetTo(markIn(2, 1, 3)), resetTo(nil)},
		{resetTo(), appended(nil)},
	}
	for _, p := range pairs {
		d := full(t, 20)
		open(t, d)
		crashes(t, d, nil, p[0], func(d *disk.Disk, l [][]byte) {
			crashes(t, d, l, p[1], nil)
		})
	}
}

func TestP605CrashWhileBegun(t *testing.T) {
	for _, first := range [][]byte{nil, plainGroup(1, 0, row(3)), plainGroup(1, 0, nil)} {
		for after := range 4 {
			d := full(t, 20)
			lay(t, d, 11, first)
			d.Stop(after)
			if _, e := Open(d); e != api.ErrDown {
				t.Fatal(e)
			}
			everyFate(len(d.Waiting()), func(fates []int) {
				c := d.Clone()
				c.Crash(fates...)
				begunAgain(t, c)
			})
		}
	}
}

// begunAgain opens a journal on a disk where one was begun already, the power going at each deed, with every fate.
func begunAgain(t *testing.T, d *disk.Disk) {
	t.Helper()
	for after := range 5 {
		c := d.Clone()
		c.Stop(after)
		if j, e := Open(c); e == api.OK {
			wantState(t, j, 1)
			continue
		} else if e != api.ErrDown {
			t.Fatal(e)
		}
		everyFate(len(c.Waiting()), func(fates []int) {
			f := c.Clone()
			f.Crash(fates...)
			wantState(t, open(t, f), 1)
		})
	}
}

// TestP605WhatLiesBehindIsNoGroup has bytes that would be one more group, at the place behind the last one.
func TestP605WhatLiesBehindIsNoGroup(t *testing.T) {
	for _, n := range []int{0, 1, 64, 65, 200} {
		d := fresh(t, 40)
		j := open(t, d)
		wantErr(t, "Append", j.Append(markIn(3, 1, 12)), api.OK)
		wantErr(t, "Reset", j.Reset(), api.OK)
		wantErr(t, "Reset", j.Reset(row(n)), api.OK)
		wantState(t, open(t, d), 3, row(n))
	}
	for _, n := range []int{0, 1, 64, 65, 200} {
		d := fresh(t, 40)
		j := open(t, d)
		wantErr(t, "Append", j.Append(markIn(3, 1, 12)), api.OK)
		wantErr(t, "Reset", j.Reset(), api.OK)
		wantErr(t, "Reset", j.Reset(), api.OK)
		wantErr(t, "Append", j.Append(row(n)), api.OK)
		wantState(t, open(t, d), 3, row(n))
	}
	d := fresh(t, 40)
	j := open(t, d)
	wantErr(t, "Append", j.Append(markIn(3, 0, 12)), api.OK)
	wantErr(t, "Reset", j.Reset(), api.OK)
	wantErr(t, "Reset", j.Reset(), api.OK)
	wantState(t, open(t, d), 3)
}

// TestP605Long does many calls, with crashes on the way, and holds the groups against a plain list.
func TestP605Long(t *testing.T) {
	for seed := range 60 {
		r := rand.New(rand.NewSource(int64(seed)))
		d := fresh(t, 8+r.Intn(40))
		j := open(t, d)
		var l [][]byte
		for range 120 {
			a := anyAct(r, j)
			if r.Intn(3) == 0 {
				d.Stop(r.Intn(12))
			}
			e := a.do(j)
			if e == api.OK {
				l = a.behind(l)
			}
			if e != api.ErrDown && r.Intn(8) > 0 {
				if !sameGroups(j.Groups(), l) || j.Used() != Takes(l...) {
					t.Fatalf("seed %d: groups %s, want %s", seed, short(j.Groups()), short(l))
				}
				continue
			}
			behind := l
			if e == api.ErrDown {
				behind = a.behind(l)
			}
			d.Crash(r.Intn(4), r.Intn(4), r.Intn(4), r.Intn(4), r.Intn(4), r.Intn(4))
			l = mustBeOneOf(t, d, l, behind)
			j = open(t, d)
		}
	}
}

// anyAct is an act, sometimes with bytes that are marks of what comes next.
func anyAct(r *rand.Rand, j *Journal) act {
	piece := func() []byte {
		if r.Intn(3) == 0 {
			return markIn(j.Gen()+int64(r.Intn(4)), int64(r.Intn(5)), r.Intn(4))
		}
		return row(r.Intn(200))
	}
	if r.Intn(4) > 0 {
		return appended(piece())
	}
	var l [][]byte
	for range r.Intn(4) {
		l = append(l, piece())
	}
	return resetTo(l...)
}
