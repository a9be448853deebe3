package scout_test

import (
	"cmp"
	"reflect"
	"slices"
	"sync"
	"testing"
	"unsafe"

	"prelude/api"
	"prelude/scout"
)

// stretch is a piece of memory.
type stretch struct {
	from, to uintptr
}

// stretches is the memory of all lists in a value, spare room behind their ends too.
func stretches(v reflect.Value) []stretch {
	var out []stretch
	switch v.Kind() {
	case reflect.Slice:
		if v.Cap() > 0 {
			out = append(out, stretch{v.Pointer(), v.Pointer() + uintptr(v.Cap())*v.Type().Elem().Size()})
		}
		for i := range v.Len() {
			out = append(out, stretches(v.Index(i))...)
		}
	case reflect.Struct:
		for i := range v.NumField() {
			out = append(out, stretches(v.Field(i))...)
		}
	}
	return out
}

// apart asks that no two lists of some values share memory.
func apart(t *testing.T, values ...any) {
	t.Helper()
	var all []stretch
	for _, v := range values {
		all = append(all, stretches(reflect.ValueOf(v))...)
	}
	slices.SortFunc(all, func(a, b stretch) int { return cmp.Compare(a.from, b.from) })
	for i := 1; i < len(all); i++ {
		if all[i].from < all[i-1].to {
			t.Fatalf("two lists of %v share memory", values)
		}
	}
}

// spared is a list with spare room, in which something stands.
func spared[T any](list []T, spare T) []T {
	return append(list[:len(list):len(list)], spare, spare)[:len(list)]
}

// roomyPaths is paths whose lists have spare room.
func roomyPaths(list []api.Path) []api.Path {
	list = slices.Clone(list)
	for i := range list {
		list[i].Hops = spared(list[i].Hops, api.Hop{Table: -7, Off: 7})
	}
	return spared(list, api.Path{Key: key(-7, 7)})
}

// roomy is wishes whose lists have spare room, in which something stands.
func roomy(wishes []api.Wish) []api.Wish {
	wishes = slices.Clone(wishes)
	for i, w := range wishes {
		wishes[i].Args, wishes[i].Reads, wishes[i].Writes = spared(w.Args, 77), roomyPaths(w.Reads), roomyPaths(w.Writes)
	}
	return spared(wishes, api.Wish{Proc: 77})
}

// wide is a copy of a value in which the lists' spare room is part of them.
func wide(v reflect.Value) reflect.Value {
	out := reflect.New(v.Type()).Elem()
	switch v.Kind() {
	case reflect.Slice:
		v = v.Slice(0, v.Cap())
		out.Set(reflect.MakeSlice(v.Type(), v.Len(), v.Len()))
		for i := range v.Len() {
			out.Index(i).Set(wide(v.Index(i)))
		}
	case reflect.Struct:
		for i := range v.NumField() {
			out.Field(i).Set(wide(v.Field(i)))
		}
	default:
		out.Set(v)
	}
	return out
}

// whole is a copy of a value with what lies in its spare room.
func whole[T any](x T) T { return wide(reflect.ValueOf(x)).Interface().(T) }

// spoil makes all that lies in a value's lists something else.
func spoil(v reflect.Value) {
	switch v.Kind() {
	case reflect.Slice:
		v = v.Slice(0, v.Cap())
		for i := range v.Len() {
			spoil(v.Index(i))
			v.Index(i).SetZero()
		}
	case reflect.Struct:
		for i := range v.NumField() {
			spoil(v.Field(i))
		}
	}
}

// roomyLibrary is procedures whose lists have spare room.
func roomyLibrary(lib []api.Proc) []api.Proc {
	lib = slices.Clone(lib)
	for i, p := range lib {
		lib[i].Program.Code = spared(p.Program.Code, api.Instr{Op: api.IGetX, A: 7})
	}
	return spared(lib, api.Proc{Name: "put"})
}

// 22.5, R4: procedures that are guarded are new memory, and those they come from stay as they are.
func TestLibraryMemory(t *testing.T) {
	lib := roomyLibrary(base())
	was := whole(lib)
	for n := range 5 {
		for _, p := range lib {
			one, _ := scout.Guard(p, n)
			two, _ := scout.Guard(p, n)
			apart(t, p, one, two)
			spoil(reflect.ValueOf(two))
			spoil(reflect.ValueOf(one))
		}
		one, f := scout.Library(lib, n)
		two, _ := scout.Library(lib, n)
		if f != api.OK {
			t.Fatal(f)
		}
		apart(t, lib, one, two)
		spoil(reflect.ValueOf(two))
		same(t, "another answer", one, guarded(t, n))
		spoil(reflect.ValueOf(one))
		same(t, "handed in", whole(lib), was)
		want, _ := scout.Library(base(), n)
		got, _ := scout.Library(lib, n)
		same(t, "with spare room", got, want)
	}
	// A name is new memory too, and so no text is kept by one.
	name := string([]byte("transfer"))
	p := api.Proc{Name: name}
	got, _ := scout.Library([]api.Proc{p}, 0)
	if got[0].Name != "transfer" || unsafe.StringData(got[0].Name) == unsafe.StringData(name) {
		t.Errorf("%s", got[0].Name)
	}
}

// 22.5, R4: a transaction is new memory, also where it is the wish's own keys and args; and a wish stays as it is.
func TestForetellMemory(t *testing.T) {
	m := newMaker(225)
	e := database(t, oneOfAll(), base(), 6000)
	for range 4 {
		e.Post(m.batch())
	}
	e.Pin(4)
	fine := 0
	for range 3000 {
		bare := m.wish()
		w := roomy([]api.Wish{bare})[0]
		was := whole(w)
		one, f := scout.Foretell(e, 4, 7, w)
		two, _ := scout.Foretell(e, 4, 7, w)
		plain, g := scout.Foretell(e, 4, 7, bare)
		apart(t, w, one, two)
		if f != g {
			t.Fatal(f, g)
		}
		same(t, "with spare room", one, plain)
		spoil(reflect.ValueOf(one))
		same(t, "another answer", two, plain)
		same(t, "handed in", whole(w), was)
		if f == api.OK {
			fine++
		}
	}
	if fine < 1000 {
		t.Errorf("%d", fine)
	}
}

// 22.5, R4: fates are new memory; wishes stay as they are, and may be changed from then on.
func TestRunMemory(t *testing.T) {
	m := newMaker(2251)
	for i := range 200 {
		l := layouts()[i%3]
		p := newPair(t, l, guarded(t, 4), 6000)
		p.post(t, m.batch())
		e := database(t, l, guarded(t, 4), 6000)
		e.Post(p.w.log[0])
		bare := m.wishes(30)
		wishes := roomy(bare)
		was := whole(wishes)
		want := p.run(t, bases(), bare, 5)
		got := scout.Run(e, bases(), wishes, 5)
		same(t, "with spare room", got, want)
		same(t, "handed in", whole(wishes), was)
		more := scout.Run(e, bases(), wishes, 5)
		apart(t, wishes, got, more, want)
		// Neither who changes wishes later nor who changes fates changes the database.
		spoil(reflect.ValueOf(wishes))
		spoil(reflect.ValueOf(more))
		same(t, "fates", got, want)
		for _, f := range want {
			if f.State != api.FateDone {
				continue
			}
			o, _ := e.Outcome(f.At.Batch, f.At.Index)
			o.Read = o.Read[len(o.Read)-len(f.Outcome.Read):]
			same(t, "outcome", o, f.Outcome)
		}
	}
}

// 22.5: but for batches, Run changes nothing: pins are as they were, and no collect was done.
func TestRunChangesNothing(t *testing.T) {
	e := database(t, oneOfAll(), guarded(t, 2), 6000)
	stands(t, e, [3]int64{1, 7, 3})
	e.Pin(0)
	e.Pin(1)
	e.Pin(1)
	stands(t, e, [3]int64{1, 7, 3})
	e.Pin(2)
	e.Drain()
	was := e.View()
	scout.Run(e, bases(), []api.Wish{{Proc: 99}, putting(1, path(1, 8, 2)), putting(1, straight(-1, 0))}, 9)
	same(t, "view", e.View(), was)
	scout.Run(e, bases(), []api.Wish{putting(1, path(1, 8, 2, 2)), putting(1, path(1, 7, 2)), putting(1, straight(1, 7)), putting(2, path(1, 7, 2))}, 9)
	v := e.View()
	same(t, "pins", v.Pins, was.Pins)
	if v.Floor != 0 || v.Charge != 2+3+1 || v.Latest != 4 {
		t.Errorf("%v", v)
	}
	for n := range 3 {
		if c, f := e.Read(n, key(1, 7)); f != api.OK || c.Is != (n > 0) {
			t.Errorf("%v, %d", c, f)
		}
	}
}

// R6: databases side by side know nothing of one another.
func TestSideBySide(t *testing.T) {
	run := func(seed int64) []api.Fate {
		m := newMaker(seed)
		lib, _ := scout.Library(base(), 3)
		e := database(t, layouts()[seed%3], lib, 6000)
		var all []api.Fate
		for range 6 {
			e.Post(m.batch())
			all = append(all, scout.Run(e, bases(), m.wishes(20), 4)...)
		}
		return all
	}
	var want [8][]api.Fate
	for i := range want {
		want[i] = run(int64(i))
	}
	var got [8][]api.Fate
	var group sync.WaitGroup
	for i := range got {
		group.Add(1)
		go func() {
			defer group.Done()
			got[i] = run(int64(i))
		}()
	}
	group.Wait()
	for i := range got {
		same(t, "fates", got[i], want[i])
	}
}
