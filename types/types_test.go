package types

import (
	"math/rand"
	"reflect"
	"slices"
	"sort"
	"strings"
	"sync"
	"testing"
	"unsafe"

	"treadmill/api"
)

// odd is a type of no expression: these calls tell any.
const odd = api.Type(255)

func function(name string, result api.Type, l ...api.Type) api.Func {
	f := api.Func{Name: name, Result: result}
	for i, t := range l {
		f.Params = append(f.Params, api.Param{Name: string(rune('a' + i)), T: t})
	}
	return f
}

func sig(name string, result api.Type, l ...api.Type) api.Sig {
	return api.Sig{Name: name, Params: l, Result: result}
}

// functions tells functions that are told apart by their results alone, where their names are alike.
func functions(names ...string) api.File {
	var f api.File
	for i, s := range names {
		f.Funcs = append(f.Funcs, function(s, api.Type(i)))
	}
	return f
}

// plain is a list with nil in place of what is empty: they mean the same.
func plain(l []api.Sig) []api.Sig {
	var p []api.Sig
	for _, s := range l {
		if len(s.Params) == 0 {
			s.Params = nil
		}
		p = append(p, s)
	}
	return p
}

func wantSigs(t *testing.T, got []api.Sig, want ...api.Sig) {
	t.Helper()
	if !reflect.DeepEqual(plain(got), plain(want)) {
		t.Errorf("%v, want %v", got, want)
	}
}

func wantLook(t *testing.T, l []api.Sig, name string, want api.Sig) {
	t.Helper()
	got, ok := Look(l, name)
	if !ok {
		t.Errorf("%q: none", name)
	}
	wantSigs(t, []api.Sig{got}, want)
}

func wantNoLook(t *testing.T, l []api.Sig, name string) {
	t.Helper()
	if got, ok := Look(l, name); ok || !reflect.DeepEqual(got, api.Sig{}) {
		t.Errorf("%q: %v %v, want none", name, got, ok)
	}
}

// wantSame asks both ways round.
func wantSame(t *testing.T, a, b []api.Sig, want bool) {
	t.Helper()
	if Same(a, b) != want || Same(b, a) != want {
		t.Errorf("%v and %v: same %v %v, want %v", a, b, Same(a, b), Same(b, a), want)
	}
}

func TestP1202Of(t *testing.T) {
	for _, x := range []struct {
		f    api.Func
		want api.Sig
	}{
		{api.Func{}, api.Sig{}},
		{function("f", api.NoType), sig("f", api.NoType)},
		{function("F", api.Int, api.Bool), sig("F", api.Int, api.Bool)},
		{function("g", api.Bool, api.Int, api.Bool, api.Bool, api.Int), sig("g", api.Bool, api.Int, api.Bool, api.Bool, api.Int)},
		// What no file may have is told as it is.
		{function("", odd, api.NoType, odd, 3), sig("", odd, api.NoType, odd, 3)},
		{function("a.b é", api.Int, slices.Repeat([]api.Type{api.Int, api.Bool}, 500)...), sig("a.b é", api.Int, slices.Repeat([]api.Type{api.Int, api.Bool}, 500)...)},
	} {
		wantSigs(t, []api.Sig{Of(x.f)}, x.want)
		// What it does is not asked.
		x.f.Body = []api.Stmt{{Op: api.StReturn, E: api.Expr{Op: api.ExBool}}}
		wantSigs(t, []api.Sig{Of(x.f)}, x.want)
	}
}

func TestP1202All(t *testing.T) {
	wantSigs(t, All(api.File{}))
	wantSigs(t, All(api.File{Name: "p", Imports: []string{"q"}}))
	f := api.File{Name: "p", Funcs: []api.Func{function("g", api.Int, api.Bool), function("F", api.NoType), function("g", api.Bool), function("", odd, api.Int, api.Int)}}
	wantSigs(t, All(f), sig("g", api.Int, api.Bool), sig("F", api.NoType), sig("g", api.Bool), sig("", odd, api.Int, api.Int))
	if l := All(functions(slices.Repeat([]string{"F", "f"}, 200)...)); len(l) != 400 || l[399].Name != "f" || l[398].Name != "F" {
		t.Errorf("%d of 400, %v", len(l), l)
	}
}

func TestP1202Exports(t *testing.T) {
	wantSigs(t, Exports(api.File{Name: "P"}))
	wantSigs(t, Exports(functions("f", "_F", "aB", "", "1F")))
	f := api.File{Name: "p", Funcs: []api.Func{function("G", api.Int, api.Bool), function("f", api.Int), function("F", api.NoType, api.Int, api.Int)}}
	wantSigs(t, Exports(f), sig("F", api.NoType, api.Int, api.Int), sig("G", api.Int, api.Bool))
	// Just what begins with a letter from A to Z, whatever is behind it; no other great letter.
	wantSigs(t, Exports(functions("Z", "A", "[", "@", "a", "z", "É", "\xc9", "M ", "B\x00")), sig("A", 1), sig("B\x00", 9), sig("M ", 8), sig("Z", 0))
}

func TestP1202ExportsRise(t *testing.T) {
	// By bytes: digits, great letters, _, small ones; a shorter one is ahead of what goes on from it.
	wantSigs(t, Exports(functions("Fa", "F_", "FA", "F9", "F", "F10", "E9")), sig("E9", 6), sig("F", 4), sig("F10", 5), sig("F9", 3), sig("FA", 2), sig("F_", 1), sig("Fa", 0))
	// Like names stay as they stand.
	wantSigs(t, Exports(functions("B", "A", "b", "B", "A", "B")), sig("A", 1), sig("A", 4), sig("B", 0), sig("B", 3), sig("B", 5))
}

func TestP1202ExportsOfMany(t *testing.T) {
	r := rand.New(rand.NewSource(12))
	for range 300 {
		var f api.File
		for range r.Intn(80) {
			name := string([]byte{"ABCabc_"[r.Intn(7)], "AZaz_09"[r.Intn(7)]}[:1+r.Intn(2)])
			f.Funcs = append(f.Funcs, function(name, api.Type(r.Intn(200)), slices.Repeat([]api.Type{api.Bool}, r.Intn(3))...))
		}
		var want []api.Sig
		for _, s := range All(f) {
			if s.Name[0] >= 'A' && s.Name[0] <= 'Z' {
				want = append(want, s)
			}
		}
		sort.SliceStable(want, func(i, j int) bool { return want[i].Name < want[j].Name })
		wantSigs(t, Exports(f), want...)
	}
}

func TestP1202Look(t *testing.T) {
	l := []api.Sig{sig("g", api.Int, api.Bool), sig("F", api.NoType), sig("g", api.Bool), sig("", odd, api.Int, odd), sig("F", api.Int)}
	wantLook(t, l, "g", sig("g", api.Int, api.Bool))
	wantLook(t, l, "F", sig("F", api.NoType))
	wantLook(t, l, "", sig("", odd, api.Int, odd))
	wantLook(t, l[2:], "g", sig("g", api.Bool))
	wantLook(t, l[2:], "F", sig("F", api.Int))
	for _, s := range []string{"f", "G", "g ", "gF", "h", strings.Repeat("g", 1<<20)} {
		wantNoLook(t, l, s)
	}
	wantNoLook(t, l[:3], "")
	wantNoLook(t, nil, "g")
	wantNoLook(t, nil, "")
	wantNoLook(t, []api.Sig{}, "")
}

func TestP1202Same(t *testing.T) {
	made := func() []api.Sig {
		return []api.Sig{sig("f", api.Int, api.Int, api.Bool), sig("G", api.NoType), sig("", odd, odd)}
	}
	wantSame(t, made(), made(), true)
	for what, spoil := range map[string]func(l []api.Sig){
		"a name":           func(l []api.Sig) { l[0].Name = "F" },
		"a longer name":    func(l []api.Sig) { l[1].Name = "Ga" },
		"no name":          func(l []api.Sig) { l[0].Name = "" },
		"a result":         func(l []api.Sig) { l[1].Result = api.Int },
		"the last result":  func(l []api.Sig) { l[2].Result = api.Bool },
		"a parameter":      func(l []api.Sig) { l[0].Params[0] = api.Bool },
		"the last one":     func(l []api.Sig) { l[0].Params[1] = api.NoType },
		"another order":    func(l []api.Sig) { slices.Reverse(l[0].Params) },
		"one less":         func(l []api.Sig) { l[0].Params = l[0].Params[:1] },
		"none":             func(l []api.Sig) { l[2].Params = nil },
		"one more":         func(l []api.Sig) { l[1].Params = []api.Type{api.NoType} },
		"functions' order": func(l []api.Sig) { l[0], l[1] = l[1], l[0] },
	} {
		l := made()
		spoil(l)
		if Same(l, made()) || Same(made(), l) {
			t.Errorf("the same with %s: %v", what, l)
		}
	}
	for n := range 3 {
		wantSame(t, made()[:n], made(), false)
		wantSame(t, made()[:n], made()[:n], true)
	}
	wantSame(t, made()[1:], made()[:2], false)
	wantSame(t, append(made(), api.Sig{}), made(), false)
	wantSame(t, []api.Sig{{}}, nil, false)
	wantSame(t, []api.Sig{{}, {}}, []api.Sig{{}}, false)
}

func TestP1202Takes(t *testing.T) {
	none, two := sig("f", api.Int), sig("f", api.Bool, api.Int, api.Bool)
	for _, x := range []struct {
		s    api.Sig
		args []api.Type
		want bool
	}{
		{none, nil, true},
		{none, []api.Type{}, true},
		{none, []api.Type{api.NoType}, false},
		{none, []api.Type{api.Int}, false},
		{two, []api.Type{api.Int, api.Bool}, true},
		{two, []api.Type{api.Bool, api.Int}, false},
		{two, []api.Type{api.Int, api.Int}, false},
		{two, []api.Type{api.Bool, api.Bool}, false},
		{two, []api.Type{api.Int, api.NoType}, false},
		{two, []api.Type{api.Int}, false},
		{two, []api.Type{api.Int, api.Bool, api.Bool}, false},
		{two, []api.Type{api.Int, api.Bool, api.NoType}, false},
		{two, nil, false},
		{sig("", odd, odd, api.NoType), []api.Type{odd, api.NoType}, true},
		{sig("", odd, odd), []api.Type{odd - 1}, false},
		{api.Sig{}, nil, true},
	} {
		if got := Takes(x.s, x.args); got != x.want {
			t.Errorf("%v takes %v: %v", x.s, x.args, got)
		}
	}
}

// behind is a text that hangs on bytes: as they are changed, so is it, and whatever shares their memory.
func behind(b []byte) string {
	return unsafe.String(&b[0], len(b))
}

func TestP1201NothingShared(t *testing.T) {
	b := []byte("Fn")
	f := function(behind(b), api.Int, api.Int, api.Bool)
	file := api.File{Funcs: []api.Func{f, f}}
	l := []api.Sig{{Name: f.Name, Params: []api.Type{api.Int, api.Bool}, Result: api.Int}}
	looked, _ := Look(l, "Fn")
	got := slices.Concat([]api.Sig{Of(f), looked}, All(file), Exports(file))
	clear(b)
	clear(f.Params)
	clear(l[0].Params)
	for i, s := range got {
		wantSigs(t, []api.Sig{s}, sig("Fn", api.Int, api.Int, api.Bool))
		// Not even the room behind one is another one's.
		clear(s.Params[:cap(s.Params)])
		for _, other := range got[i+1:] {
			if unsafe.StringData(s.Name) == unsafe.StringData(other.Name) {
				t.Errorf("two answers share a name: %v", other)
			}
		}
	}
}

func TestP1201NoRoomShared(t *testing.T) {
	room := []api.Type{api.Int, api.Bool, api.Int, api.Bool}
	for n := range room {
		l := []api.Sig{{Name: "f", Params: room[:n]}}
		s, _ := Look(l, "f")
		_ = append(s.Params, odd, odd)
		clear(s.Params[:cap(s.Params)])
	}
	if !slices.Equal(room, []api.Type{api.Int, api.Bool, api.Int, api.Bool}) {
		t.Errorf("the room behind a list was changed: %v", room)
	}
}

func TestP1201NothingChanged(t *testing.T) {
	made := func() api.File {
		return api.File{Name: "p", Funcs: []api.Func{function("G", api.Int, api.Bool), function("f", api.NoType), function("F", api.Bool, api.Int, api.Int), function("A", odd)}}
	}
	f := made()
	wantSigs(t, Exports(api.File{Funcs: f.Funcs[:3]}), sig("F", api.Bool, api.Int, api.Int), sig("G", api.Int, api.Bool))
	All(f)
	Of(f.Funcs[2])
	l, was := All(f), All(f)
	Look(l[:2], "f")
	Same(l[:2], l)
	Takes(l[2], l[2].Params[:1])
	if !reflect.DeepEqual(f, made()) || !reflect.DeepEqual(l, was) {
		t.Errorf("changed: %v %v", f, l)
	}
}

func TestP1201EmptyLists(t *testing.T) {
	wantSigs(t, []api.Sig{Of(api.Func{Name: "f", Params: []api.Param{}, Body: []api.Stmt{}})}, sig("f", api.NoType))
	wantSigs(t, All(api.File{Funcs: []api.Func{}}))
	wantSigs(t, Exports(api.File{Funcs: []api.Func{}}))
	wantSame(t, nil, []api.Sig{}, true)
	wantSame(t, nil, nil, true)
	wantSame(t, []api.Sig{{Name: "f"}}, []api.Sig{{Name: "f", Params: []api.Type{}}}, true)
	wantLook(t, []api.Sig{{Name: "f", Params: []api.Type{}}}, "f", sig("f", api.NoType))
	if !Takes(api.Sig{Params: []api.Type{}}, nil) || !Takes(api.Sig{}, []api.Type{}) {
		t.Error("nil and empty are not the same")
	}
}

func TestP1201AtTheSameTime(t *testing.T) {
	f := functions("G", "F", "f", "G", "A")
	l, seen := All(f), Exports(f)
	var wait sync.WaitGroup
	for range 8 {
		wait.Go(func() {
			for range 200 {
				s, ok := Look(l, "G")
				if !Same(All(f), l) || !Same(Exports(f), seen) || !Same([]api.Sig{s}, l[:1]) || !ok || !Takes(Of(f.Funcs[0]), nil) {
					t.Error("not as alone")
				}
			}
		})
	}
	wait.Wait()
}
