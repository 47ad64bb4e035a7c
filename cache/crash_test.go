package cache

import (
	"fmt"
	"math/rand"
	"slices"
	"testing"

	"treadmill/api"
	"treadmill/disk"
)

// model is what a cache ought to be: a plain list, and how many sectors of the room are used.
type model struct {
	room, used, evicted int
	l                   []Entry
}

func (m model) without(key string) []Entry {
	return slices.DeleteFunc(slices.Clone(m.l), func(e Entry) bool { return e.Key == key })
}

// put tells what there is behind a Put, and its answer, if the power stays.
func (m model) put(e Entry) (model, api.Errno) {
	if slices.Contains(m.l, e) {
		return m, api.OK
	}
	take := takes(plain(e.Key, e.Value))
	if take > m.room {
		return m, api.ErrFull
	}
	others := m.without(e.Key)
	if m.used+take <= m.room {
		m.used += take
		m.l = append(others, e)
		return m, api.OK
	}
	m.l = append(others, e)
	for m.used = takes(plains(m.l)...); m.used > m.room; m.used = takes(plains(m.l)...) {
		m.l = m.l[1:]
		m.evicted++
	}
	return m, api.OK
}

// holds tells whether a cache that is up is just as the model.
func (m model) holds(c *Cache) error {
	if l := c.Entries(); !slices.Equal(l, m.l) {
		return fmt.Errorf("entries %s, want %s", short(l), short(m.l))
	}
	if c.Free() != m.room-m.used || c.Evicted() != m.evicted || c.Down() {
		return fmt.Errorf("free %d, evicted %d, down %v, want %d, %d", c.Free(), c.Evicted(), c.Down(), m.room-m.used, m.evicted)
	}
	for _, e := range m.l {
		if v, ok := c.Get(e.Key); v != e.Value || !ok {
			return fmt.Errorf("Get(%q) = %q, %v", e.Key, v, ok)
		}
	}
	return nil
}

// everyFate goes through the fates of so many sectors: all, or, if these are too many, some of a short rule.
func everyFate(n int, yield func(fates []int)) {
	fates := make([]int, n)
	if n <= 4 {
		for x := range 1 << (2 * n) {
			for i := range fates {
				fates[i] = x >> (2 * i)
			}
			yield(fates)
		}
		return
	}
	r := rand.New(rand.NewSource(int64(n)))
	for x := range 200 {
		for i := range fates {
			fates[i] = r.Intn(4)
			if x < 4 {
				fates[i] = x
			}
		}
		yield(fates)
	}
}

// reopened holds a disk, behind a crash, to a cache that is as one of two models, opened once more, too, and tells which.
func reopened(t *testing.T, d *disk.Disk, ahead, behind model) model {
	t.Helper()
	ahead.evicted, behind.evicted = 0, 0
	done := d.Done()
	for _, m := range []model{ahead, behind} {
		if m.holds(open(t, d)) != nil {
			continue
		}
		d.Crash(1, 2, 3)
		if e := m.holds(open(t, d)); e != nil {
			t.Fatal("opened once more:", e)
		}
		if d.Done() != done {
			t.Fatal("something was written")
		}
		return m
	}
	t.Fatal(behind.holds(open(t, d)), "or", ahead.holds(open(t, d)))
	return model{}
}

// crashes does a Put, the power going at each of its deeds, with every fate.
func crashes(t *testing.T, d *disk.Disk, ahead model, e Entry) {
	t.Helper()
	behind, want := ahead.put(e)
	not, there := 0, 0
	for after := 0; ; after++ {
		c := d.Clone()
		k := open(t, c)
		c.Stop(after)
		no := k.Put(e.Key, e.Value)
		if no == want {
			c.Crash()
			reopened(t, c, behind, behind)
			break
		}
		if no != api.ErrDown || !k.Down() {
			t.Fatalf("behind %d deeds: %v", after, no)
		}
		everyFate(len(c.Waiting()), func(fates []int) {
			f := c.Clone()
			f.Crash(fates...)
			if m := reopened(t, f, ahead, behind); slices.Equal(m.l, ahead.l) {
				not++
			} else {
				there++
			}
		})
	}
	if len(behind.l) > 0 && !slices.Equal(ahead.l, behind.l) && (not == 0 || there == 0) {
		t.Errorf("%s: not there %d times, there %d times", short([]Entry{e}), not, there)
	}
}

func TestP705EveryCrash(t *testing.T) {
	for _, sectors := range []int{20, 21} {
		for _, ahead := range [][]Entry{
			{},
			{{"a", "1"}},
			{{"a", "1"}, {"b", text(60)}},
			{{"a", "1"}, {"b", "2"}, {"c", "3"}, {"d", "4"}},
			{{"a", "1"}, {"a", "2"}, {"a", "3"}, {"b", "4"}},
			{{"a", "1"}, {"b", "2"}, {"c", "3"}, {"d", "4"}, {"e", text(200)}, {"f", "6"}},
			{{"a", text(450)}, {"b", text(450)}},
		} {
			d := fresh(t, sectors)
			c := open(t, d)
			m := model{room: 9}
			for _, e := range ahead {
				no := api.OK
				if m, no = m.put(e); no != api.OK {
					t.Fatal(no)
				}
				wantPut(t, c, e.Key, e.Value, api.OK)
			}
			if e := m.holds(c); e != nil {
				t.Fatal(e)
			}
			for _, e := range []Entry{{"a", "1"}, {"a", "x"}, {"b", "x"}, {"x", ""}, {"x", text(130)}, {"a", text(300)}, {"x", text(400)}, {"x", text(503)}, {"x", text(504)}} {
				crashes(t, d, m, e)
			}
		}
	}
}

// TestP705Long does many calls, with crashes on the way, and holds the entries against a plain list.
func TestP705Long(t *testing.T) {
	for seed := range 80 {
		r := rand.New(rand.NewSource(int64(seed)))
		d := fresh(t, 8+r.Intn(60))
		c := open(t, d)
		m := model{room: (d.Sectors() - 2) / 2}
		keys := []string{"", "a", "b", "c", alikeA, alikeB, alikeA + "x", alikeB + "x", text(70)}
		for range 150 {
			e := Entry{keys[r.Intn(len(keys))], text(r.Intn(3) * r.Intn(90))}
			if r.Intn(4) == 0 {
				d.Stop(r.Intn(14))
			}
			behind, want := m.put(e)
			no := c.Put(e.Key, e.Value)
			if no != want && no != api.ErrDown {
				t.Fatalf("seed %d: Put = %v, want %v", seed, no, want)
			}
			if no != api.ErrDown {
				m = behind
			}
			if no != api.ErrDown && r.Intn(8) > 0 {
				if e := m.holds(c); e != nil {
					t.Fatalf("seed %d: %v", seed, e)
				}
				continue
			}
			d.Crash(r.Intn(4), r.Intn(4), r.Intn(4), r.Intn(4), r.Intn(4), r.Intn(4))
			m = reopened(t, d, m, behind)
			c = open(t, d)
		}
	}
}

// TestP705WhatLooksLikeEntries has values that are the sectors of other entries' groups.
func TestP705WhatLooksLikeEntries(t *testing.T) {
	other := fresh(t, 20)
	wantPut(t, open(t, other), "ghost", "1", api.OK)
	var sectors string
	for i := range 3 {
		b, _ := other.Read(11 + i)
		sectors += string(b)
	}
	d := fresh(t, 20)
	m := model{room: 9}
	c := open(t, d)
	// Its bytes begin at the sectors' own places, behind the length and the key.
	for _, e := range []Entry{{text(56), sectors}, {"a", ""}, {text(56), sectors[:64]}, {"b", text(100)}} {
		crashes(t, d, m, e)
		m, _ = m.put(e)
		wantPut(t, c, e.Key, e.Value, api.OK)
		wantNone(t, open(t, d), "ghost")
	}
}
