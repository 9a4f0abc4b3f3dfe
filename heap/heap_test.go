package heap

import (
	"math"
	"reflect"
	"slices"
	"strings"
	"testing"

	"aumbry/api"
)

func num(n int64) api.Word { return api.Word{Kind: api.WordInt, Num: n} }
func to(k int) api.Word    { return api.Word{Kind: api.WordOid, Num: int64(k)} }

func obj(kind uint8, l ...api.Word) api.Object { return api.Object{Kind: kind, Words: l} }
func stub(oid int) api.Object                  { return api.Object{Kind: api.ObjStub, Tag: oid} }
func str(s string) api.Object                  { return api.Object{Kind: api.ObjStr, Text: s} }

func is(t *testing.T, what string, got, want api.Errno) {
	t.Helper()
	if got != want {
		t.Errorf("%s: %d, not %d", what, got, want)
	}
}

func made(t *testing.T, limit int, l ...api.Object) *Heap {
	t.Helper()
	h, e := New(limit)
	is(t, "New", e, api.OK)
	for i, o := range l {
		if k, e := h.Alloc(o); k != i+1 || e != api.OK {
			t.Fatalf("Alloc %d: %d, %d", i, k, e)
		}
	}
	return h
}

func TestSize(t *testing.T) { // P24.1
	for want, o := range map[int]api.Object{1: {}, 3: obj(api.ObjTuple, num(1), num(2)), 2: str("12345678"), 4: str(strings.Repeat("x", 17))} {
		if Size(o) != want {
			t.Errorf("%v: %d", o, Size(o))
		}
	}
	if Size(api.Object{Kind: api.ObjStub, Words: make([]api.Word, 5), Text: "abc"}) != 1 || Size(str("x")) != 2 || Size(str("")) != 1 {
		t.Error("Size")
	}
	for _, n := range []int{0, -1, 1<<24 + 1, math.MaxInt} {
		if h, e := New(n); h != nil || e != api.ErrArg {
			t.Errorf("New(%d)", n)
		}
	}
	for _, n := range []int{1, 1 << 24} {
		if h := made(t, n); h.Limit() != n || h.Used() != 0 || h.Count() != 0 {
			t.Errorf("New(%d)", n)
		}
	}
}

func TestExample(t *testing.T) { // P24.2, P24.4 to P24.7
	h := made(t, 10, str("ab"), obj(api.ObjRef, to(1)), stub(5))
	if h.Used() != 5 || h.Count() != 3 {
		t.Error("Used")
	}
	tuple := obj(api.ObjTuple, to(1), to(2), num(0))
	if k, e := h.Alloc(tuple); k != 4 || e != api.OK || h.Used() != 9 {
		t.Error("a tuple")
	}
	_, e := h.Alloc(tuple)
	is(t, "a tuple more", e, api.ErrFull)
	is(t, "Tie", h.Tie(2, 5), api.ErrState)
	is(t, "Tie", h.Tie(2, 6), api.OK)
	if !h.SetWord(2, 0, num(7)) || !slices.Equal(h.Dirty(), []int{2}) {
		t.Error("Dirty")
	}
	if h.Collect(nil) != 3 || h.Count() != 1 || h.Used() != 2 {
		t.Error("Collect")
	}
	if k, e := h.Alloc(stub(5)); k != 5 || e != api.OK {
		t.Error("a stub again")
	}
	is(t, "Fill", h.Fill(5, obj(api.ObjArray)), api.OK)
	if k, ok := h.Of(5); k != 5 || !ok {
		t.Error("Of")
	}
}

func TestAlloc(t *testing.T) { // P24.2
	h := made(t, 1<<20)
	for _, o := range []api.Object{
		{}, {Kind: 9}, obj(api.ObjTuple), obj(api.ObjTuple, num(1)), obj(api.ObjCon, num(1), num(2)), obj(api.ObjExn, num(1), num(2)), obj(api.ObjRef), obj(api.ObjRef, num(1), num(2)), obj(api.ObjStr, num(1)), {Kind: api.ObjStub, Tag: 1, Words: []api.Word{num(1)}},
		{Kind: api.ObjArray, Text: "x"}, {Kind: api.ObjArray, Tag: 1}, {Kind: api.ObjStr, Tag: 1}, {Kind: api.ObjCon, Tag: -1}, {Kind: api.ObjCon, Tag: 65536}, {Kind: api.ObjExn, Tag: 65536}, {Kind: api.ObjFun, Tag: 65536}, stub(0), stub(16385), stub(-1), {Kind: api.ObjStub, Tag: 1, Text: "x"},
		obj(api.ObjRef, api.Word{}), obj(api.ObjArray, num(1), api.Word{Kind: 3}), {Kind: api.ObjFun, Text: "x"},
	} {
		if k, e := h.Alloc(o); k != 0 || e != api.ErrArg {
			t.Errorf("%v: %d", o, e)
		}
	}
	good := []api.Object{
		obj(api.ObjTuple, num(math.MaxInt64), to(-5)), {Kind: api.ObjCon, Tag: 65535}, obj(api.ObjCon, num(1)), {Kind: api.ObjExn, Tag: 65535, Words: []api.Word{to(99)}}, obj(api.ObjArray), obj(api.ObjArray, make([]api.Word, 0)...), {Kind: api.ObjFun, Tag: 65535, Words: []api.Word{num(1), num(2)}}, str(""), stub(1), stub(16384),
	}
	for i, o := range good {
		if k, e := h.Alloc(o); k != i+1 || e != api.OK {
			t.Errorf("%v: %d", o, e)
		}
	}
	_, e := h.Alloc(stub(1))
	is(t, "a stub of what is tied", e, api.ErrState)
	is(t, "Tie", h.Tie(1, 77), api.OK)
	_, e = h.Alloc(stub(77))
	is(t, "a stub of what is tied", e, api.ErrState)
	if k, e := h.Alloc(api.Object{Kind: api.ObjCon, Tag: 77}); k != 11 || e != api.OK {
		t.Error("a constructor of that place")
	}
	full := made(t, 3, str("a"))
	_, e = full.Alloc(stub(0))
	is(t, "wrong and full", e, api.ErrArg)
	_, e = full.Alloc(str("a"))
	is(t, "full", e, api.ErrFull)
	if k, e := full.Alloc(str("")); k != 2 || e != api.OK {
		t.Error("just full")
	}
}

func TestGet(t *testing.T) { // P24.3, P24.8
	words := []api.Word{num(1), to(9)}
	h := made(t, 100, obj(api.ObjArray, words...), obj(api.ObjTuple, words...), obj(api.ObjRef, num(3)))
	words[0] = num(8)
	o, ok := h.Get(1)
	if !ok || !reflect.DeepEqual(o, obj(api.ObjArray, num(1), to(9))) {
		t.Error("Get")
	}
	o.Words[0] = num(8)
	if w, ok := h.Word(1, 0); w != num(1) || !ok {
		t.Error("what is handed out is kept")
	}
	for _, k := range []int{0, 4, -1, math.MaxInt} {
		if o, ok := h.Get(k); ok || !reflect.DeepEqual(o, api.Object{}) {
			t.Error("Get of none")
		}
		if w, ok := h.Word(k, 0); ok || w != (api.Word{}) {
			t.Error("Word of none")
		}
	}
	for _, i := range []int{-1, 2, math.MaxInt} {
		if w, ok := h.Word(1, i); ok || w != (api.Word{}) || h.SetWord(1, i, num(1)) {
			t.Error("no such word")
		}
	}
	if h.SetWord(2, 0, num(1)) || h.SetWord(9, 0, num(1)) || h.SetWord(1, 0, api.Word{}) || h.SetWord(3, 0, api.Word{Kind: 3}) || !h.SetWord(3, 0, to(2)) || !h.SetWord(1, 1, num(5)) {
		t.Error("SetWord")
	}
	if w, _ := h.Word(3, 0); w != to(2) || len(h.Dirty()) != 0 {
		t.Error("what is not tied is not dirty")
	}
}

func TestTies(t *testing.T) { // P24.4, P24.6
	h := made(t, 100, obj(api.ObjRef, num(1)), obj(api.ObjRef, num(2)), stub(9), str("x"))
	for _, c := range []struct {
		k, oid int
		e      api.Errno
	}{{0, 0, api.ErrNone}, {5, 1, api.ErrNone}, {1, 0, api.ErrArg}, {1, 16385, api.ErrArg}, {3, 0, api.ErrArg}, {3, 1, api.ErrState}, {1, 9, api.ErrState}, {1, 16384, api.OK}, {1, 2, api.ErrState}, {2, 16384, api.ErrState}, {4, 1, api.OK}} {
		is(t, "Tie", h.Tie(c.k, c.oid), c.e)
	}
	if !slices.Equal(h.Oids(), []int{1, 9, 16384}) {
		t.Error("Oids")
	}
	if oid, ok := h.Oid(1); oid != 16384 || !ok {
		t.Error("Oid")
	}
	if oid, ok := h.Oid(2); oid != 0 || ok {
		t.Error("Oid of what is not tied")
	}
	if k, ok := h.Of(9); k != 3 || !ok {
		t.Error("Of")
	}
	if k, ok := h.Of(2); k != 0 || ok {
		t.Error("Of none")
	}
	h.SetWord(1, 0, num(5))
	if !slices.Equal(h.Dirty(), []int{1}) || h.Clean(2) || !h.Clean(1) || h.Clean(1) || h.Clean(77) || len(h.Dirty()) != 0 {
		t.Error("Clean")
	}
	h.SetWord(1, 0, num(6))
	if h.Untie(3) || h.Untie(2) || h.Untie(99) || !h.Untie(1) || h.Untie(1) || len(h.Dirty()) != 0 {
		t.Error("Untie")
	}
	is(t, "Tie again", h.Tie(2, 16384), api.OK)
	is(t, "Tie again", h.Tie(1, 5), api.OK)
	if len(h.Dirty()) != 0 {
		t.Error("it is dirty")
	}
}

func TestFill(t *testing.T) { // P24.5
	h := made(t, 6, stub(4), str("a"))
	for _, o := range []api.Object{{}, obj(api.ObjExn), obj(api.ObjFun), stub(5), obj(api.ObjRef)} {
		is(t, "Fill", h.Fill(1, o), api.ErrArg)
	}
	is(t, "Fill", h.Fill(3, api.Object{}), api.ErrNone)
	is(t, "Fill", h.Fill(2, api.Object{}), api.ErrState)
	is(t, "Fill", h.Fill(1, obj(api.ObjArray, num(1), num(2), num(3), num(4))), api.ErrFull)
	words := []api.Word{num(1), num(2), num(3)}
	is(t, "Fill", h.Fill(1, obj(api.ObjArray, words...)), api.OK)
	words[0] = num(9)
	if w, _ := h.Word(1, 0); w != num(1) || h.Used() != 6 || len(h.Dirty()) != 0 {
		t.Error("Fill")
	}
	if oid, _ := h.Oid(1); oid != 4 {
		t.Error("it is tied as it was")
	}
	is(t, "Fill", h.Fill(1, str("")), api.ErrState)
	if !h.SetWord(1, 2, num(1)) || !slices.Equal(h.Dirty(), []int{1}) {
		t.Error("it is dirty when it is set")
	}
}

func TestCollect(t *testing.T) { // P24.7
	h := made(t, 100, str("a"), obj(api.ObjRef, to(1)), obj(api.ObjTuple, to(2), to(4)), obj(api.ObjArray, to(3), to(77), num(5)), str("e"), obj(api.ObjFun, to(5)), stub(3), obj(api.ObjRef, to(7)))
	h.Tie(8, 20)
	h.SetWord(8, 0, to(6))
	if n := h.Collect([]int{3, 3, -1, 99}); n != 1 {
		t.Error("Collect", n)
	}
	if _, ok := h.Of(3); ok || h.Count() != 7 {
		t.Error("its tie goes")
	}
	if h.Collect([]int{3}) != 0 {
		t.Error("again nothing goes")
	}
	h.Clean(8)
	if n := h.Collect([]int{5}); n != 6 || h.Used() != 2 || !reflect.DeepEqual(h.Oids(), []int(nil)) && len(h.Oids()) != 0 {
		t.Error("Collect", n)
	}
	if k, _ := h.Alloc(str("")); k != 9 {
		t.Error("a handle is given twice")
	}
}

func TestNone(t *testing.T) { // P24.8
	var h *Heap
	_, e := h.Alloc(api.Object{})
	is(t, "Alloc", e, api.ErrNil)
	is(t, "Tie", h.Tie(0, 0), api.ErrNil)
	is(t, "Fill", h.Fill(0, api.Object{}), api.ErrNil)
	if _, ok := h.Get(1); ok || h.SetWord(1, 0, num(1)) || h.Untie(1) || h.Clean(1) || h.Oids() != nil || h.Dirty() != nil || h.Collect([]int{1}) != 0 || h.Used() != 0 || h.Count() != 0 || h.Limit() != 0 {
		t.Error("no heap")
	}
	if _, ok := h.Word(1, 0); ok {
		t.Error("Word")
	}
	if _, ok := h.Oid(1); ok {
		t.Error("Oid")
	}
	if _, ok := h.Of(1); ok {
		t.Error("Of")
	}
}

func TestLimit(t *testing.T) { // what follows
	h := made(t, 60)
	x := uint32(3)
	for range 5000 {
		x = x*1664525 + 1013904223
		k := int(x>>8) % 40
		switch x >> 29 {
		case 0:
			h.Collect([]int{k, k + 1, k + 2})
		case 1:
			h.Alloc(stub(1 + k))
		case 2:
			h.Fill(h.count-k%5, obj(api.ObjArray, slices.Repeat([]api.Word{to(k)}, k%7)...))
		case 3:
			h.Tie(h.count-k%5, 1+k)
		case 4:
			h.SetWord(h.count-k%5, 0, to(h.count-1))
		default:
			h.Alloc(obj(api.ObjRef, to(h.count-k%3)))
		}
		used := 0
		for _, o := range h.objects {
			used += Size(o.Object)
		}
		if h.Used() != used || used > 60 {
			t.Fatal("Used")
		}
		for _, oid := range h.Oids() {
			if k, _ := h.Of(oid); h.oids[k] != oid || h.objects[k] == nil {
				t.Fatal("a tie")
			}
		}
	}
}
