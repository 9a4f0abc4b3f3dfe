package bridge

import (
	"reflect"
	"slices"
	"strconv"
	"strings"
	"testing"

	"aumbry/api"
	"aumbry/disk"
	"aumbry/heap"
	"aumbry/store"
)

func is(t *testing.T, what string, got, want api.Errno) {
	t.Helper()
	if got != want {
		t.Errorf("%s: %d, not %d", what, got, want)
	}
}

func num(n int) api.Word { return api.Word{Kind: api.WordInt, Num: int64(n)} }
func to(k int) api.Word  { return api.Word{Kind: api.WordOid, Num: int64(k)} }

func obj(kind uint8, l ...api.Word) api.Object { return api.Object{Kind: kind, Words: l} }
func ref(w api.Word) api.Object                { return obj(api.ObjRef, w) }

func made(t *testing.T, sectors int) (*disk.Disk, *store.Store) {
	t.Helper()
	d, _ := disk.New(sectors)
	store.Format(d)
	return d, opened(t, d)
}

func opened(t *testing.T, d *disk.Disk) *store.Store {
	t.Helper()
	s, e := store.Open(d, 8)
	if e != api.OK {
		t.Fatalf("Open: %d", e)
	}
	return s
}

func heaped(t *testing.T, limit int, l ...api.Object) *heap.Heap {
	t.Helper()
	h, _ := heap.New(limit)
	for _, o := range l {
		if _, e := h.Alloc(o); e != api.OK {
			t.Fatal(e)
		}
	}
	return h
}

func want(name string, w api.Word) Want { return Want{name, "t", w} }

func TestExample(t *testing.T) { // P26.1, P26.2, P26.3
	d, s := made(t, 100)
	h := heaped(t, 100, ref(num(5)))
	is(t, "Commit", Commit(h, s, []Want{{"a", "int ref", to(1)}}), api.OK)
	if len(s.Oids()) != 2 || s.Turned() {
		t.Error("the store has two objects")
	}
	if oid, ok := h.Oid(1); oid != 1 || !ok {
		t.Error("it is tied")
	}
	s = opened(t, d)
	if stamp, oid, _ := s.Root("a"); stamp != "int ref" || oid != 2 {
		t.Error("the root")
	}
	if o, _ := s.Read(2); !reflect.DeepEqual(o, obj(api.ObjArray, to(1))) {
		t.Error("a root's object", o)
	}
	h = heaped(t, 100)
	w, yes, e := Kept(h, s, "a")
	if w != to(1) || !yes || e != api.OK {
		t.Error("Kept")
	}
	if o, _ := h.Get(1); o.Kind != api.ObjStub || o.Tag != 1 {
		t.Error("a stub")
	}
	if w, yes, e := Kept(h, s, "a"); w != to(1) || !yes || e != api.OK || h.Count() != 1 {
		t.Error("Kept again is the same")
	}
	is(t, "Fault", Fault(h, s, 1), api.OK)
	if o, _ := h.Get(1); !reflect.DeepEqual(o, ref(num(5))) {
		t.Error("a ref of 5")
	}
	if w, yes, e := Kept(h, s, "b"); w != (api.Word{}) || yes || e != api.OK {
		t.Error("no such root")
	}
}

func TestKept(t *testing.T) { // P26.1
	d, s := made(t, 100)
	s.Alloc(ref(num(1)))
	s.Alloc(obj(api.ObjArray, num(1), num(2)))
	s.Alloc(obj(api.ObjArray, num(77)))
	s.Alloc(obj(api.ObjArray, to(1)))
	for i, name := range []string{"a", "b", "c", "d"} {
		s.SetRoot(name, "t", i+1)
	}
	s.Commit()
	h := heaped(t, 1, obj(api.ObjArray))
	for _, name := range []string{"a", "b"} {
		w, yes, e := Kept(h, s, name)
		if is(t, "Kept", e, api.ErrCorrupt); yes || w != (api.Word{}) {
			t.Error("yes")
		}
	}
	if w, yes, e := Kept(h, s, "c"); w != num(77) || !yes || e != api.OK {
		t.Error("a number")
	}
	w, yes, e := Kept(h, s, "d")
	if is(t, "Kept", e, api.ErrFull); yes || w != (api.Word{}) {
		t.Error("yes")
	}
	_, _, e = Kept(nil, s, "d")
	is(t, "Kept", e, api.ErrNil)
	_, _, e = Kept(h, nil, "d")
	is(t, "Kept", e, api.ErrNil)
	d.Off()
	_, _, e = Kept(h, s, "d")
	is(t, "Kept", e, api.ErrPower)
}

func TestFault(t *testing.T) { // P26.2
	d, s := made(t, 100)
	s.Alloc(obj(api.ObjTuple, to(2), to(1)))
	s.Alloc(obj(api.ObjArray, to(3), num(4), to(3), to(1)))
	s.Alloc(api.Object{Kind: api.ObjStr, Text: "abc"})
	s.SetRoot("a", "t", 1)
	s.Commit()
	stub := api.Object{Kind: api.ObjStub, Tag: 2}
	h := heaped(t, 8, ref(num(1)), stub)
	is(t, "Fault", Fault(h, s, 9), api.ErrNone)
	is(t, "Fault", Fault(h, s, 1), api.ErrState)
	is(t, "Fault", Fault(h, nil, 9), api.ErrNil)
	is(t, "Fault", Fault(nil, s, 9), api.ErrNil)
	is(t, "Fault", Fault(h, s, 2), api.ErrFull) // two stubs more, but not the array
	if h.Count() != 4 || h.Used() != 5 {
		t.Error("what was brought stays")
	}
	h = heaped(t, 9, ref(num(1)), stub)
	is(t, "Fault", Fault(h, s, 2), api.OK)
	if o, _ := h.Get(2); !reflect.DeepEqual(o, obj(api.ObjArray, to(3), num(4), to(3), to(4))) {
		t.Error(o)
	}
	if oid, _ := h.Oid(3); oid != 3 || len(h.Dirty()) != 0 {
		t.Error("ties")
	}
	h = heaped(t, 9, api.Object{Kind: api.ObjStub, Tag: 77})
	is(t, "Fault", Fault(h, s, 1), api.ErrNone)
	d.Off()
	is(t, "Fault", Fault(h, s, 1), api.ErrPower)
	is(t, "power ahead of the handle", Fault(h, s, 99), api.ErrPower)
}

// graph tells what a root is made of: each object by the order in which it is come to.
func graph(t *testing.T, s *store.Store, name string) string {
	t.Helper()
	h := heaped(t, 1<<20)
	w, yes, e := Kept(h, s, name)
	if !yes || e != api.OK {
		t.Fatalf("no root %s: %d", name, e)
	}
	seen := map[int64]int{}
	var told func(w api.Word) string
	told = func(w api.Word) string {
		if w.Kind == api.WordInt {
			return strconv.Itoa(int(w.Num))
		}
		if n, ok := seen[w.Num]; ok {
			return "#" + strconv.Itoa(n)
		}
		seen[w.Num] = len(seen)
		if o, _ := h.Get(int(w.Num)); o.Kind == api.ObjStub {
			is(t, "Fault", Fault(h, s, int(w.Num)), api.OK)
		}
		o, _ := h.Get(int(w.Num))
		out := strconv.Itoa(int(o.Kind)) + "." + strconv.Itoa(o.Tag) + o.Text + "("
		for _, x := range o.Words {
			out += told(x) + ","
		}
		return out + ")"
	}
	return told(w)
}

func TestRings(t *testing.T) { // P26.3, P26.4
	d, s := made(t, 200)
	h := heaped(t, 1000, ref(to(3)), api.Object{Kind: api.ObjStr, Text: "s"}, obj(api.ObjTuple, to(1), to(2)), obj(api.ObjArray, to(3), to(1), to(4), num(9)), ref(to(99)), api.Object{Kind: api.ObjCon, Tag: 7, Words: []api.Word{to(4)}})
	is(t, "Commit", Commit(h, s, []Want{want("a", to(6)), want("b", to(1)), want("n", num(-3))}), api.OK)
	if len(s.Oids()) != 5+3 {
		t.Error("what no root leads to is kept")
	}
	if _, ok := h.Oid(5); ok {
		t.Error("it is tied")
	}
	s = opened(t, d)
	if got := graph(t, s, "a"); got != "2.7(4.0(1.0(3.0(#2,),5.0s(),),#3,#1,9,),)" {
		t.Error(got)
	}
	if got := graph(t, s, "b"); got != "3.0(1.0(#0,5.0s(),),)" {
		t.Error(got)
	}
	if got := graph(t, s, "n"); got != "-3" {
		t.Error(got)
	}
}

func TestAgain(t *testing.T) { // P26.3: what is dirty is made anew
	d, s := made(t, 200)
	h := heaped(t, 1000, ref(num(1)), ref(to(1)), ref(num(5)))
	is(t, "Commit", Commit(h, s, []Want{want("a", to(2)), want("c", to(3))}), api.OK)
	h = heaped(t, 1000)
	w, _, _ := Kept(h, s, "a")
	is(t, "Fault", Fault(h, s, int(w.Num)), api.OK)
	inner, _ := h.Word(int(w.Num), 0)
	is(t, "Fault", Fault(h, s, int(inner.Num)), api.OK)
	h.SetWord(int(inner.Num), 0, num(2))
	k, _ := h.Alloc(ref(to(int(inner.Num))))
	h.SetWord(int(w.Num), 0, to(k))
	before := len(s.Oids())
	is(t, "Commit", Commit(h, s, nil), api.OK)
	if len(h.Dirty()) != 0 || len(s.Oids()) != before+1 {
		t.Error("behind Commit")
	}
	if got := graph(t, opened(t, d), "a"); got != "3.0(3.0(3.0(2,),),)" {
		t.Error(got)
	}
	h.SetWord(int(w.Num), 0, num(0)) // inner is led to no more
	is(t, "Commit", Commit(h, s, nil), api.OK)
	h.SetWord(int(inner.Num), 0, num(66))
	is(t, "Commit", Commit(h, s, nil), api.OK)
	if !slices.Equal(h.Dirty(), []int{int(inner.Num)}) {
		t.Error("what no root leads to is not made anew")
	}
	h.SetWord(int(w.Num), 0, inner)
	is(t, "Commit", Commit(h, s, nil), api.OK)
	if got := graph(t, opened(t, d), "a"); got != "3.0(3.0(66,),)" || len(h.Dirty()) != 0 {
		t.Error(got)
	}
	if got := graph(t, opened(t, d), "c"); got != "3.0(5,)" {
		t.Error(got)
	}
	is(t, "Commit", Commit(h, s, []Want{want("c", inner)}), api.OK)
	if got := graph(t, opened(t, d), "c"); got != "3.0(66,)" {
		t.Error("a root that is set again", got)
	}
}

func TestThroughStore(t *testing.T) { // P26.3: what leads on from what is not in the heap
	d, s := made(t, 200)
	h := heaped(t, 1000, ref(num(1)), obj(api.ObjTuple, to(1), num(0)), obj(api.ObjTuple, to(2), num(0)))
	is(t, "Commit", Commit(h, s, []Want{want("a", to(3)), want("b", to(1))}), api.OK)
	h = heaped(t, 1000)
	w, _, _ := Kept(h, s, "b")
	is(t, "Fault", Fault(h, s, int(w.Num)), api.OK)
	k, _ := h.Alloc(ref(num(7)))
	h.SetWord(int(w.Num), 0, to(k))
	is(t, "Commit", Commit(h, s, nil), api.OK)
	if got := graph(t, opened(t, d), "a"); got != "1.0(1.0(3.0(3.0(7,),),0,),0,)" {
		t.Error(got)
	}
}

func TestErrors(t *testing.T) { // P26.3
	d, s := made(t, 60)
	h := heaped(t, 10000, ref(num(1)), api.Object{Kind: api.ObjFun, Tag: 1}, obj(api.ObjArray, slices.Repeat([]api.Word{num(1)}, 910)...), api.Object{Kind: api.ObjStr, Text: strings.Repeat("x", 8000)}, ref(api.Word{Kind: api.WordInt, Num: 1 << 62}))
	is(t, "Commit", Commit(nil, s, nil), api.ErrNil)
	is(t, "Commit", Commit(h, nil, nil), api.ErrNil)
	is(t, "Commit", Commit(h, s, []Want{want("a", to(1))}), api.OK)
	h.SetWord(1, 0, num(2))
	epoch := s.Epoch()
	for _, c := range []struct {
		w []Want
		e api.Errno
	}{
		{[]Want{want("b", to(2))}, api.ErrArg}, {[]Want{want("b", to(3))}, api.ErrFull}, {[]Want{want("b", to(4))}, api.ErrFull}, {[]Want{want("b", to(5))}, api.ErrArg}, {[]Want{want("b", to(77))}, api.ErrNone}, {[]Want{want("b", num(1)), want("", num(1))}, api.ErrArg},
		{[]Want{{"b", "", num(1)}}, api.ErrArg},
	} {
		is(t, "Commit", Commit(h, s, c.w), c.e)
		if s.Turned() || s.Epoch() != epoch || len(s.Oids()) != 2 || !slices.Equal(h.Dirty(), []int{1}) {
			t.Error("something has changed")
		}
		if _, ok := h.Oid(4); ok {
			t.Error("it is tied")
		}
	}
	s.Free(2)
	is(t, "Turned", Commit(h, s, nil), api.ErrState)
	d.Off()
	is(t, "power ahead of Turned", Commit(h, s, nil), api.ErrPower)
}

func TestMany(t *testing.T) { // P26.3: more objects than there are oids
	_, s := made(t, 4096)
	h := heaped(t, 1<<20, ref(num(0)))
	for k := 1; k < 30000; k++ {
		h.Alloc(ref(to(k)))
	}
	is(t, "Commit", Commit(h, s, []Want{want("a", to(30000))}), api.ErrFull)
	is(t, "Commit", Commit(h, s, []Want{want("a", to(api.MaxOids))}), api.ErrFull)
	is(t, "Commit", Commit(h, s, []Want{want("a", to(12000))}), api.OK)
}

func TestPower(t *testing.T) { // P26.3, P26.4
	for n := 1; n < 40; n++ {
		d, s := made(t, 100)
		h := heaped(t, 1000, ref(num(1)), obj(api.ObjTuple, to(1), to(1)))
		is(t, "Commit", Commit(h, s, []Want{want("a", to(2))}), api.OK)
		h.SetWord(1, 0, num(2))
		k, _ := h.Alloc(ref(to(1)))
		d.Arm(n)
		e := Commit(h, s, []Want{want("b", to(k))})
		if e != api.OK && e != api.ErrPower {
			t.Fatal(e)
		}
		if e == api.ErrPower && (len(h.Dirty()) != 1 || len(h.Oids()) != 2) {
			t.Error("the heap has changed")
		}
		d.Off()
		d.On([]int{0, 2, 4, 5}, n%4)
		s = opened(t, d)
		got := graph(t, s, "a")
		_, _, both := s.Root("b")
		if e == api.OK && !both || both != (got == "1.0(3.0(2,),#1,)") || !both && got != "1.0(3.0(1,),#1,)" {
			t.Error(n, e, both, got)
		}
		if both && graph(t, s, "b") != "3.0(3.0(2,),)" {
			t.Error("b")
		}
	}
}
