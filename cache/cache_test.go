package cache

import (
	"bytes"
	"encoding/binary"
	"fmt"
	"math"
	"slices"
	"strings"
	"testing"

	"treadmill/api"
	"treadmill/disk"
	"treadmill/journal"
	"treadmill/sums"
)

// Two keys with one Fnv sum: they, and whatever goes on from both alike, share a bucket.
const (
	alikeA = "8yn0iYCKYHlIj4-BwPqk"
	alikeB = "GReLUrM4wMqfg9yzV3KQ"
)

// text is one of a short rule, that is not alike anywhere.
func text(n int) string {
	b := make([]byte, n)
	for i := range b {
		b[i] = byte(i*i*11 + i>>3*29 + 7)
	}
	return string(b)
}

// plain is an entry as a group, by the library.
func plain(key, value string) []byte {
	b := binary.LittleEndian.AppendUint64(nil, uint64(len(key)))
	return append(b, key+value...)
}

func plains(l []Entry) [][]byte {
	var g [][]byte
	for _, e := range l {
		g = append(g, plain(e.Key, e.Value))
	}
	return g
}

// takes is how many sectors groups take.
func takes(l ...[]byte) int {
	n := 0
	for _, b := range l {
		n += 1 + (len(b)+63)/64
	}
	return n
}

func fresh(t *testing.T, sectors int) *disk.Disk {
	t.Helper()
	d, e := disk.New(sectors)
	if e != api.OK {
		t.Fatalf("disk.New(%d) = %v", sectors, e)
	}
	return d
}

// withGroups is a disk whose journal has these groups.
func withGroups(t *testing.T, sectors int, l ...[]byte) *disk.Disk {
	t.Helper()
	d := fresh(t, sectors)
	j, _ := journal.Open(d)
	for _, b := range l {
		if e := j.Append(b); e != api.OK {
			t.Fatalf("journal.Append = %v", e)
		}
	}
	return d
}

func groups(t *testing.T, d *disk.Disk) [][]byte {
	t.Helper()
	j, e := journal.Open(d)
	if e != api.OK {
		t.Fatalf("journal.Open = %v", e)
	}
	return j.Groups()
}

func wantGroups(t *testing.T, d *disk.Disk, want ...[]byte) {
	t.Helper()
	if got := groups(t, d); !slices.EqualFunc(got, want, bytes.Equal) {
		t.Errorf("groups %q, want %q", got, want)
	}
}

func open(t *testing.T, d *disk.Disk) *Cache {
	t.Helper()
	c, e := Open(d)
	if e != api.OK || c == nil {
		t.Fatalf("Open = %v, %v", c, e)
	}
	return c
}

func wantPut(t *testing.T, c *Cache, key, value string, want api.Errno) {
	t.Helper()
	if got := c.Put(key, value); got != want {
		t.Errorf("Put(%d bytes, %d bytes) = %v, want %v", len(key), len(value), got, want)
	}
}

func wantEntries(t *testing.T, c *Cache, want ...Entry) {
	t.Helper()
	if got := c.Entries(); !slices.Equal(got, want) {
		t.Errorf("entries %s, want %s", short(got), short(want))
	}
	for _, e := range want {
		if v, ok := c.Get(e.Key); v != e.Value || !ok {
			t.Errorf("Get(%q) = %q, %v, want %q", e.Key, v, ok, e.Value)
		}
	}
}

// wantNone holds keys to be not there.
func wantNone(t *testing.T, c *Cache, keys ...string) {
	t.Helper()
	for _, k := range keys {
		if v, ok := c.Get(k); v != "" || ok {
			t.Errorf("Get(%q) = %q, %v", k, v, ok)
		}
	}
}

// short tells entries as one can read them.
func short(l []Entry) string {
	var s []string
	for _, e := range l {
		s = append(s, fmt.Sprintf("%.9q: %d bytes %.5q", e.Key, len(e.Value), e.Value))
	}
	return strings.Join(s, ", ")
}

func TestP701CacheThatOpenDidNotMake(t *testing.T) {
	d := fresh(t, 20)
	j, _ := journal.Open(d)
	done := d.Done()
	for _, c := range []*Cache{nil, {}, {Journal: j}} {
		for range 2 {
			for _, k := range []string{"", "a", text(api.MaxKey + 1)} {
				wantNone(t, c, k)
				wantPut(t, c, k, "b", api.ErrArg)
				wantPut(t, c, "b", k, api.ErrArg)
			}
			if len(c.Entries()) != 0 || c.Evicted() != 0 || !c.Down() || c.Free() != 0 {
				t.Error(c.Entries(), c.Evicted(), c.Down(), c.Free())
			}
		}
	}
	if d.Done() != done {
		t.Error("something was written")
	}
}

func TestP701EntriesShareNothing(t *testing.T) {
	c := open(t, fresh(t, 32))
	wantPut(t, c, "a", "1", api.OK)
	wantPut(t, c, "b", "2", api.OK)
	for range 2 {
		l := c.Entries()
		clear(l)
		_ = append(l[:0], Entry{"x", "y"}, Entry{"x", "y"}, Entry{"x", "y"})
		wantEntries(t, c, Entry{"a", "1"}, Entry{"b", "2"})
	}
	l, m := c.Entries(), c.Entries()
	clear(l[:cap(l)])
	if m[0] != (Entry{"a", "1"}) {
		t.Error("two answers share their room")
	}
}

func TestP701PackedIsNew(t *testing.T) {
	b := Pack(Entry{"key", "value"})
	clear(b[:cap(b)])
	if b := Pack(Entry{"key", "value"}); !bytes.Equal(b, plain("key", "value")) {
		t.Error(b)
	}
	room := append(plain("key", "value"), "behind"...)
	was := bytes.Clone(room)
	e, ok := Unpack(room[:16])
	if !ok || !bytes.Equal(room, was) {
		t.Error("Unpack changed what was handed in")
	}
	clear(room)
	if e != (Entry{"key", "value"}) {
		t.Error(e, "shares what was handed in")
	}
}

func TestP702Pack(t *testing.T) {
	for _, k := range []string{"", "a", "\x00", "päth", text(255), text(256), text(api.MaxKey), text(api.MaxKey + 1)} {
		for _, v := range []string{"", "1", "\x00\x00", text(300), text(api.MaxBytes + 1)} {
			b := Pack(Entry{k, v})
			if !bytes.Equal(b, plain(k, v)) {
				t.Errorf("Pack of %d and %d bytes is wrong", len(k), len(v))
			}
			if e, ok := Unpack(b); !ok || e != (Entry{k, v}) {
				t.Errorf("Unpack of %d and %d bytes is wrong", len(k), len(v))
			}
		}
	}
	if b := Pack(Entry{"ab", "c"}); !bytes.Equal(b, []byte{2, 0, 0, 0, 0, 0, 0, 0, 'a', 'b', 'c'}) {
		t.Error(b)
	}
}

// length is bytes that begin with a length.
func length(n int64, rest string) []byte {
	return append(binary.LittleEndian.AppendUint64(nil, uint64(n)), rest...)
}

func noEntries() [][]byte {
	return [][]byte{
		nil, {}, {0}, make([]byte, 7), length(0, "")[:7], length(1, ""), length(4, "abc"), length(-1, ""), length(-1, "abc"), length(-8, "abcdefgh"), length(11, "abc"),
		length(math.MaxInt64, "abc"), length(math.MinInt64, "abc"), length(math.MinInt64+2, "abc"), length(1<<32+2, "abc"), length(1<<63-8, "abc"), length(8, "1234567"),
	}
}

func TestP702Unpack(t *testing.T) {
	for _, b := range noEntries() {
		if e, ok := Unpack(b); ok || e != (Entry{}) {
			t.Errorf("Unpack(%v) = %q, %v", b, e, ok)
		}
	}
	for n := range int64(4) {
		if e, ok := Unpack(length(n, "abc")); !ok || e != (Entry{"abc"[:n], "abc"[n:]}) {
			t.Errorf("Unpack, length %d: %q, %v", n, e, ok)
		}
	}
	if e, ok := Unpack(make([]byte, 8)); !ok || e != (Entry{}) {
		t.Errorf("Unpack of no key and no value: %q, %v", e, ok)
	}
}

func TestP702OpenErrors(t *testing.T) {
	for _, d := range []*disk.Disk{nil, {}, fresh(t, 1), fresh(t, 7)} {
		if c, e := Open(d); c != nil || e != api.ErrArg {
			t.Errorf("Open of %d sectors = %v, %v", d.Sectors(), c, e)
		}
	}
	d := fresh(t, 8)
	d.Stop(0)
	if c, e := Open(d); c != nil || e != api.ErrDown {
		t.Errorf("Open without power = %v, %v", c, e)
	}
	for after := range 4 {
		d := fresh(t, 20)
		d.Stop(after)
		if c, e := Open(d); c != nil || e != api.ErrDown {
			t.Errorf("Open, down behind %d deeds = %v, %v", after, c, e)
		}
	}
	d.Crash()
	wantEntries(t, open(t, d))
}

func TestP702OpenOfWhatIsNoEntry(t *testing.T) {
	a, b := plain("a", "1"), plain("b", "2")
	for _, x := range noEntries() {
		for _, l := range [][][]byte{{x}, {x, a}, {a, x}, {a, x, b}, {a, x, a}, {a, b, x, x}} {
			d := withGroups(t, 40, l...)
			done := d.Done()
			for range 2 {
				if c, e := Open(d); c != nil || e != api.ErrForm {
					t.Errorf("Open with %q = %v, %v", l, c, e)
				}
			}
			if d.Done() != done {
				t.Error("something was written")
			}
		}
	}
	// That there is no power is told ahead of it.
	d := withGroups(t, 20, nil)
	d.Stop(0)
	if c, e := Open(d); c != nil || e != api.ErrDown {
		t.Errorf("Open without power = %v, %v", c, e)
	}
}

func TestP702OpenTellsTheEntriesOfTheGroups(t *testing.T) {
	long := text(api.MaxKey + 1)
	a, b, a2, b2 := plain("a", "1"), plain("b", "2"), plain("a", "3"), plain("b", "")
	for _, x := range []struct {
		l    [][]byte
		want []Entry
	}{
		{nil, nil},
		{[][]byte{a}, []Entry{{"a", "1"}}},
		{[][]byte{a, b}, []Entry{{"a", "1"}, {"b", "2"}}},
		{[][]byte{b, a}, []Entry{{"b", "2"}, {"a", "1"}}},
		{[][]byte{a, b, a2}, []Entry{{"b", "2"}, {"a", "3"}}},
		{[][]byte{a, b, a}, []Entry{{"b", "2"}, {"a", "1"}}},
		{[][]byte{a, a, a}, []Entry{{"a", "1"}}},
		{[][]byte{a2, a, b, b2, a2}, []Entry{{"b", ""}, {"a", "3"}}},
		{[][]byte{make([]byte, 8)}, []Entry{{"", ""}}},
		{[][]byte{plain("", "x"), a, plain("", "")}, []Entry{{"a", "1"}, {"", ""}}},
		{[][]byte{plain(alikeA, "1"), plain(alikeB, "2"), plain(alikeA, "3")}, []Entry{{alikeB, "2"}, {alikeA, "3"}}},
		{[][]byte{plain(long, "1"), a}, []Entry{{long, "1"}, {"a", "1"}}},
	} {
		d := withGroups(t, 4000, x.l...)
		done := d.Done()
		c := open(t, d)
		wantEntries(t, c, x.want...)
		if c.Evicted() != 0 || c.Down() || c.Free() != 1999-takes(x.l...) || d.Done() != done {
			t.Error(c.Evicted(), c.Down(), c.Free(), d.Done()-done)
		}
	}
}

func TestP703Example(t *testing.T) {
	d := fresh(t, 20)
	wantPut(t, open(t, d), "a", "1", api.OK)
	d.Crash()
	wantEntries(t, open(t, d), Entry{"a", "1"})
}

func TestP703Get(t *testing.T) {
	c := open(t, fresh(t, 400))
	wantNone(t, c, "", "a", text(api.MaxKey), text(api.MaxKey+1))
	wantPut(t, c, "a", "1", api.OK)
	wantPut(t, c, "ab", "", api.OK)
	wantNone(t, c, "", "b", "A", "a\x00", "abc", text(api.MaxKey))
	wantEntries(t, c, Entry{"a", "1"}, Entry{"ab", ""})
	wantPut(t, c, "", "none", api.OK)
	wantPut(t, c, "long", text(3000), api.OK)
	wantEntries(t, c, Entry{"a", "1"}, Entry{"ab", ""}, Entry{"", "none"}, Entry{"long", text(3000)})
}

// TestP703KeysAreHeldInFull has keys whose sums are one.
func TestP703KeysAreHeldInFull(t *testing.T) {
	if alikeA == alikeB || sums.Fnv([]byte(alikeA)) != sums.Fnv([]byte(alikeB)) {
		t.Fatal("the keys have not one sum")
	}
	c := open(t, fresh(t, 100))
	wantPut(t, c, alikeA, "1", api.OK)
	wantNone(t, c, alikeB)
	wantPut(t, c, alikeB, "1", api.OK)
	wantEntries(t, c, Entry{alikeA, "1"}, Entry{alikeB, "1"})
	wantPut(t, c, alikeA, "2", api.OK)
	wantEntries(t, c, Entry{alikeB, "1"}, Entry{alikeA, "2"})
	wantPut(t, c, alikeB, "3", api.OK)
	wantEntries(t, c, Entry{alikeA, "2"}, Entry{alikeB, "3"})
	wantNone(t, c, alikeA+"x", alikeB+"x")
	wantPut(t, c, alikeB+"x", "4", api.OK)
	wantNone(t, c, alikeA+"x")
	// One of two in a bucket goes, the other one stays: of a room of 9 sectors each takes 2.
	c = open(t, fresh(t, 20))
	for _, k := range []string{alikeA, alikeB, "c", "d", "e"} {
		wantPut(t, c, k, k, api.OK)
	}
	wantNone(t, c, alikeA)
	wantEntries(t, c, Entry{alikeB, alikeB}, Entry{"c", "c"}, Entry{"d", "d"}, Entry{"e", "e"})
}

func TestP703PutAppends(t *testing.T) {
	d := fresh(t, 60)
	c := open(t, d)
	var l [][]byte
	var want []Entry
	for i, e := range []Entry{{"a", "1"}, {"", ""}, {"b", text(47)}, {"c", text(55)}, {"d", text(56)}, {"e", text(200)}, {text(100), "9"}} {
		l = append(l, plain(e.Key, e.Value))
		want = append(want, e)
		done := d.Done()
		wantPut(t, c, e.Key, e.Value, api.OK)
		if n := d.Done() - done; n != takes(l[i])+3 || len(d.Waiting()) != 0 {
			t.Errorf("%d deeds, waiting %v", n, d.Waiting())
		}
		wantGroups(t, d, l...)
		wantEntries(t, c, want...)
		wantEntries(t, open(t, d), want...)
		if c.Free() != 29-takes(l...) {
			t.Error(c.Free())
		}
	}
}

func TestP703PutAnotherValue(t *testing.T) {
	d := fresh(t, 60)
	c := open(t, d)
	for _, e := range []Entry{{"a", "1"}, {"b", "2"}, {"c", "3"}, {"a", ""}, {"b", "22"}, {"b", "2"}} {
		wantPut(t, c, e.Key, e.Value, api.OK)
	}
	wantEntries(t, c, Entry{"c", "3"}, Entry{"a", ""}, Entry{"b", "2"})
	wantEntries(t, open(t, d), Entry{"c", "3"}, Entry{"a", ""}, Entry{"b", "2"})
	wantGroups(t, d, plain("a", "1"), plain("b", "2"), plain("c", "3"), plain("a", ""), plain("b", "22"), plain("b", "2"))
	if c.Evicted() != 0 || c.Free() != 29-12 {
		t.Error(c.Evicted(), c.Free())
	}
}

func TestP703PutWhatIsThere(t *testing.T) {
	d := fresh(t, 20)
	c := open(t, d)
	want := []Entry{{"a", "1"}, {"b", ""}, {"", "x"}, {alikeA, text(50)}}
	for _, e := range want {
		wantPut(t, c, e.Key, e.Value, api.OK)
	}
	if c.Free() != 0 {
		t.Fatal(c.Free())
	}
	done := d.Done()
	for _, c := range []*Cache{c, open(t, d)} {
		for range 2 {
			for _, e := range want {
				wantPut(t, c, e.Key, e.Value, api.OK)
			}
		}
		wantEntries(t, c, want...)
		if c.Evicted() != 0 || c.Free() != 0 || d.Done() != done {
			t.Error(c.Evicted(), c.Free(), d.Done()-done)
		}
	}
	wantGroups(t, d, plains(want)...)
	// Without power nothing need be written, either.
	d.Stop(0)
	wantPut(t, c, "a", "1", api.OK)
	wantPut(t, c, "a", "2", api.ErrDown)
	wantPut(t, c, "a", "1", api.ErrDown)
}

func TestP703PutTooLong(t *testing.T) {
	d := fresh(t, 40000)
	c := open(t, d)
	key, value := text(api.MaxKey+1), text(api.MaxBytes)
	for _, x := range []struct {
		k, v string
		want api.Errno
	}{
		{key, "", api.ErrArg}, {key, value, api.ErrArg}, {"", value, api.ErrArg}, {"", value[:api.MaxBytes-7], api.ErrArg}, {"a", value[:api.MaxBytes-8], api.ErrArg},
		{key[:api.MaxKey], value[:api.MaxBytes-api.MaxKey-7], api.ErrArg},
	} {
		done := d.Done()
		wantPut(t, c, x.k, x.v, x.want)
		if d.Done() != done || c.Free() != c.Room() || len(c.Entries()) != 0 {
			t.Error("something was put")
		}
	}
	for _, e := range []Entry{{key[:api.MaxKey], ""}, {"", value[:api.MaxBytes-8]}, {"a", value[:api.MaxBytes-9]}, {key[:api.MaxKey], value[:api.MaxBytes-api.MaxKey-8]}} {
		wantPut(t, c, e.Key, e.Value, api.OK)
		if v, ok := open(t, d).Get(e.Key); !ok || v != e.Value {
			t.Errorf("Get of %d bytes: %d bytes, %v", len(e.Key), len(v), ok)
		}
	}
}

func TestP703PutEvictsTheOldest(t *testing.T) {
	// Of a room of 9 sectors an entry with this value takes 3, with twice that 5, three times 7.
	v := text(119)
	for _, x := range []struct {
		ahead   []Entry
		put     Entry
		want    []Entry
		evicted int
	}{
		{[]Entry{{"a", v}, {"b", v}, {"c", v}}, Entry{"d", ""}, []Entry{{"b", v}, {"c", v}, {"d", ""}}, 1},
		{[]Entry{{"a", v}, {"b", v}, {"c", v}}, Entry{"d", v}, []Entry{{"b", v}, {"c", v}, {"d", v}}, 1},
		{[]Entry{{"a", v}, {"b", v}, {"c", v}}, Entry{"d", v + v}, []Entry{{"c", v}, {"d", v + v}}, 2},
		{[]Entry{{"a", v}, {"b", v}, {"c", v}}, Entry{"d", v + v + v}, []Entry{{"d", v + v + v}}, 3},
		{[]Entry{{"a", ""}, {"b", v}, {"c", v}}, Entry{"d", v}, []Entry{{"b", v}, {"c", v}, {"d", v}}, 1},
		// The oldest one goes first, though another one would do.
		{[]Entry{{"a", ""}, {"b", v + v}, {"c", ""}}, Entry{"d", v}, []Entry{{"c", ""}, {"d", v}}, 2},
		// Of the older value with this key no more is kept, and no other one goes for it.
		{[]Entry{{"a", v}, {"b", v}, {"c", v}}, Entry{"a", ""}, []Entry{{"b", v}, {"c", v}, {"a", ""}}, 0},
		{[]Entry{{"a", v}, {"b", v}, {"c", v}}, Entry{"b", v[1:]}, []Entry{{"a", v}, {"c", v}, {"b", v[1:]}}, 0},
		{[]Entry{{"a", v}, {"b", v}, {"c", v}}, Entry{"b", v + "x"}, []Entry{{"c", v}, {"b", v + "x"}}, 1},
		{[]Entry{{"a", v}, {"b", v}, {"c", v}}, Entry{"c", v + v}, []Entry{{"b", v}, {"c", v + v}}, 1},
		{[]Entry{{"a", v}, {"b", v}, {"c", v}}, Entry{"a", v + v + v}, []Entry{{"a", v + v + v}}, 2},
		// What stood for older values goes first.
		{[]Entry{{"a", v}, {"a", "1"}, {"a", "2"}, {"b", "3"}}, Entry{"c", v}, []Entry{{"a", "2"}, {"b", "3"}, {"c", v}}, 0},
		{[]Entry{{"a", v}, {"a", "1"}, {"a", "2"}, {"b", "3"}}, Entry{"c", v + v}, []Entry{{"a", "2"}, {"b", "3"}, {"c", v + v}}, 0},
		{[]Entry{{"a", v}, {"a", "1"}, {"a", "2"}, {"b", "3"}}, Entry{"c", v + v + v}, []Entry{{"b", "3"}, {"c", v + v + v}}, 1},
		{[]Entry{{"a", "1"}, {"b", "2"}, {"a", "3"}, {"c", "4"}}, Entry{"d", v + v}, []Entry{{"a", "3"}, {"c", "4"}, {"d", v + v}}, 1},
	} {
		d := fresh(t, 20)
		c := open(t, d)
		for _, e := range x.ahead {
			wantPut(t, c, e.Key, e.Value, api.OK)
		}
		if c.Evicted() != 0 {
			t.Fatal("something went too early")
		}
		done := d.Done()
		wantPut(t, c, x.put.Key, x.put.Value, api.OK)
		wantEntries(t, c, x.want...)
		wantGroups(t, d, plains(x.want)...)
		took := takes(plains(x.want)...)
		if c.Evicted() != x.evicted || c.Free() != 9-took || c.Down() || len(d.Waiting()) != 0 {
			t.Error(c.Evicted(), c.Free(), c.Down(), d.Waiting())
		}
		// A Reset: the groups, a sector of 0 where there is room, a head, and two times Sync.
		if n := d.Done() - done; n != min(took+1, 9)+3 || c.Gen() != 2 {
			t.Errorf("%d deeds, generation %d", n, c.Gen())
		}
		for _, k := range []string{"a", "b", "c"} {
			if !slices.ContainsFunc(x.want, func(e Entry) bool { return e.Key == k }) {
				wantNone(t, c, k)
				wantNone(t, open(t, d), k)
			}
		}
	}
}

func TestP703PutThatDoesNotFitAlone(t *testing.T) {
	d := fresh(t, 20)
	c := open(t, d)
	wantPut(t, c, "a", "0", api.OK)
	wantPut(t, c, "a", "1", api.OK)
	wantPut(t, c, "b", "2", api.OK)
	done := d.Done()
	for _, e := range []Entry{{"c", text(8*64 - 8)}, {"a", text(8*64 - 8)}, {text(8*64 - 7), ""}, {"c", text(api.MaxBytes - 9)}} {
		wantPut(t, c, e.Key, e.Value, api.ErrFull)
		wantEntries(t, c, Entry{"a", "1"}, Entry{"b", "2"})
	}
	if c.Evicted() != 0 || c.Free() != 3 || c.Down() || d.Done() != done {
		t.Error(c.Evicted(), c.Free(), c.Down(), d.Done()-done)
	}
	wantGroups(t, d, plain("a", "0"), plain("a", "1"), plain("b", "2"))
	wantPut(t, c, "c", text(8*64-9), api.OK)
	wantEntries(t, c, Entry{"c", text(8*64 - 9)})
	if c.Evicted() != 2 || c.Free() != 0 {
		t.Error(c.Evicted(), c.Free())
	}
	wantPut(t, c, "", "", api.OK)
	wantEntries(t, c, Entry{"", ""})
	if c.Evicted() != 3 || c.Free() != 7 {
		t.Error(c.Evicted(), c.Free())
	}
}

func TestP703PutDown(t *testing.T) {
	v := text(119)
	for _, put := range []Entry{{"c", ""}, {"a", "x"}, {"c", v + v}, {"b", v + v}} {
		for after := 0; ; after++ {
			d := fresh(t, 20)
			c := open(t, d)
			wantPut(t, c, "a", v, api.OK)
			wantPut(t, c, "b", v, api.OK)
			d.Stop(after)
			if c.Put(put.Key, put.Value) == api.OK {
				break
			}
			d.Crash(1, 2, 3)
			done := d.Done()
			// It stays down, whatever is put, and tells what was there.
			for _, e := range []Entry{put, {"a", v}, {"z", ""}, {text(api.MaxKey + 1), ""}, {"", text(api.MaxBytes)}} {
				wantPut(t, c, e.Key, e.Value, api.ErrDown)
			}
			wantEntries(t, c, Entry{"a", v}, Entry{"b", v})
			if !c.Down() || c.Evicted() != 0 || c.Free() != 3 || d.Done() != done {
				t.Error(c.Down(), c.Evicted(), c.Free(), d.Done()-done)
			}
		}
	}
}

func TestP703ErrorsInOrder(t *testing.T) {
	d := fresh(t, 20)
	c := open(t, d)
	wantPut(t, c, text(api.MaxKey+1), text(api.MaxBytes), api.ErrArg)
	wantPut(t, c, "a", text(api.MaxBytes-8), api.ErrArg)
	wantPut(t, c, "a", text(api.MaxBytes-9), api.ErrFull)
	// What can be told without the disk is told ahead of its power, while no call was answered ErrDown.
	d.Stop(0)
	wantPut(t, c, text(api.MaxKey+1), "", api.ErrArg)
	wantPut(t, c, "a", text(api.MaxBytes-9), api.ErrFull)
	if c.Down() {
		t.Error("down, though nothing was ErrDown")
	}
	wantPut(t, c, "a", "", api.ErrDown)
	wantPut(t, c, text(api.MaxKey+1), "", api.ErrDown)
	if !c.Down() {
		t.Error("not down")
	}
	// A key that is too long is told ahead of its being there.
	long := text(api.MaxKey + 1)
	c = open(t, withGroups(t, 4000, plain(long, "1")))
	wantPut(t, c, long, "1", api.ErrArg)
	wantEntries(t, c, Entry{long, "1"})
}

// TestP703NoGenerationIsLeft has a journal that can't be Reset any more.
func TestP703NoGenerationIsLeft(t *testing.T) {
	d := fresh(t, 20)
	head := binary.LittleEndian.AppendUint64([]byte{'T', 'M', 1, 0}, math.MaxInt64)
	head = append(head, make([]byte, 16)...)
	head = binary.LittleEndian.AppendUint32(head, sums.Crc(head))
	d.Write(1, append(head, head...))
	d.Sync()
	c := open(t, d)
	if c.Gen() != math.MaxInt64 {
		t.Fatal(c.Gen())
	}
	wantPut(t, c, "a", text(300), api.OK)
	wantPut(t, c, "b", text(300), api.ErrFull)
	wantEntries(t, c, Entry{"a", text(300)})
	if c.Evicted() != 0 {
		t.Error(c.Evicted())
	}
}

func TestP704Entries(t *testing.T) {
	// Many, that a map goes through in another order each time.
	d := fresh(t, 2000)
	c := open(t, d)
	var want []Entry
	for i := range 300 {
		e := Entry{fmt.Sprint("key", i*7%300), fmt.Sprint(i)}
		want = append(want, e)
		wantPut(t, c, e.Key, e.Value, api.OK)
	}
	for range 3 {
		wantEntries(t, c, want...)
		wantEntries(t, open(t, d), want...)
	}
	for i := range 100 {
		e := Entry{want[i*2].Key, "new"}
		want = append(want, e)
		wantPut(t, c, e.Key, e.Value, api.OK)
	}
	want = slices.DeleteFunc(want, func(e Entry) bool { return e.Value != "new" && slices.Contains(want, Entry{e.Key, "new"}) })
	wantEntries(t, c, want...)
	wantEntries(t, open(t, d), want...)
}

func TestP704EvictedSinceItWasOpened(t *testing.T) {
	d := fresh(t, 20)
	c := open(t, d)
	for i := range 10 {
		wantPut(t, c, fmt.Sprint(i), "", api.OK)
		if n := max(i-3, 0); c.Evicted() != n {
			t.Errorf("behind %d: %d evicted, want %d", i+1, c.Evicted(), n)
		}
	}
	k := open(t, d)
	if k.Evicted() != 0 || k.Free() != 1 {
		t.Error(k.Evicted(), k.Free())
	}
	wantPut(t, k, "x", text(100), api.OK)
	if k.Evicted() != 1 || c.Evicted() != 6 {
		t.Error(k.Evicted(), c.Evicted())
	}
	// What an eviction took can be put anew, and evicted once more.
	wantPut(t, k, "6", "", api.OK)
	wantEntries(t, k, Entry{"8", ""}, Entry{"9", ""}, Entry{"x", text(100)}, Entry{"6", ""})
	if k.Evicted() != 2 || k.Free() != 0 {
		t.Error(k.Evicted(), k.Free())
	}
}

func TestP704Free(t *testing.T) {
	for _, sectors := range []int{8, 9, 10, 20, 21, api.MaxSectors} {
		d := fresh(t, sectors)
		c := open(t, d)
		room := (sectors - 2) / 2
		if c.Free() != room {
			t.Errorf("of %d sectors: %d", sectors, c.Free())
		}
		wantPut(t, c, "a", text(100), api.OK)
		if c.Free() != room-3 || open(t, d).Free() != room-3 {
			t.Errorf("of %d sectors, 3 taken: %d, %d", sectors, c.Free(), open(t, d).Free())
		}
	}
}

func TestP704CachesAreApart(t *testing.T) {
	d := fresh(t, 20)
	c := open(t, d)
	wantPut(t, c, "a", "1", api.OK)
	k := open(t, d.Clone())
	wantPut(t, c, "a", "2", api.OK)
	wantPut(t, k, "b", "3", api.OK)
	wantEntries(t, c, Entry{"a", "2"})
	wantEntries(t, k, Entry{"a", "1"}, Entry{"b", "3"})
	wantNone(t, c, "b")
}
