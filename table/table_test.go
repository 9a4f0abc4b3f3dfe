package table

import (
	"bytes"
	"math"
	"slices"
	"testing"

	"aumbry/api"
	"aumbry/disk"
	"aumbry/shadow"
)

func is(t *testing.T, what string, got, want api.Errno) {
	t.Helper()
	if got != want {
		t.Errorf("%s: %d, not %d", what, got, want)
	}
}

func space(t *testing.T, sectors int) (*disk.Disk, *shadow.Space) {
	t.Helper()
	d, _ := disk.New(sectors)
	shadow.Format(d)
	s, e := shadow.Open(d, 8)
	if e != api.OK {
		t.Fatal(e)
	}
	return d, s
}

func made(t *testing.T) (*shadow.Space, *Table) {
	t.Helper()
	_, s := space(t, 64)
	l, e := Open(s)
	if e != api.OK {
		t.Fatal(e)
	}
	return s, l
}

func low(t *testing.T, l *Table, want int) {
	t.Helper()
	if got, ok := l.Low(); got != want || ok != (want > 0) {
		t.Errorf("Low: %d, %v", got, ok)
	}
}

func TestExample(t *testing.T) { // P11.2, P11.3
	s, l := made(t)
	low(t, l, 1)
	is(t, "Set", l.Set(1, 265, 0), api.OK)
	is(t, "Set", l.Set(63, 300, 2), api.OK)
	if b, _ := s.Read(0); !bytes.Equal(b, []byte{9, 1, 0, 0}) {
		t.Errorf("%x", b)
	}
	if b, _ := s.Read(1); !bytes.Equal(b, []byte{0x2c, 1, 2, 0}) {
		t.Errorf("%x", b)
	}
	low(t, l, 2)
	is(t, "Set", l.Set(1, 264, 0), api.ErrArg)
	is(t, "Clear", l.Clear(63), api.OK)
	if !slices.Equal(s.Pages(), []int{0}) || !slices.Equal(l.Oids(), []int{1}) {
		t.Error("the page is dropped")
	}
}

func TestEntries(t *testing.T) { // P11.2
	s, l := made(t)
	for _, c := range [][3]int{{0, 300, 0}, {-1, 300, 0}, {16385, 300, 0}, {1, 264, 0}, {1, 1024, 0}, {1, 0, 0}, {1, -300, 0}, {1, 300, -1}, {1, 300, 65536}, {math.MaxInt, 300, 0}} {
		is(t, "Set", l.Set(c[0], c[1], c[2]), api.ErrArg)
	}
	for _, oid := range []int{0, -1, 16385} {
		is(t, "Clear", l.Clear(oid), api.ErrArg)
	}
	is(t, "Clear", l.Clear(5), api.ErrNone)
	is(t, "Set", l.Set(16384, 1023, Long), api.OK)
	is(t, "Set", l.Set(62, 265, 7), api.OK)
	is(t, "Set", l.Set(60, 266, 8), api.OK)
	if !slices.Equal(s.Pages(), []int{0, 264}) || !slices.Equal(l.Oids(), []int{60, 62, 16384}) {
		t.Error("pages", s.Pages())
	}
	if p, slot, ok := l.Get(16384); p != 1023 || slot != 65535 || !ok {
		t.Error("Get")
	}
	for _, oid := range []int{0, -1, 1, 61, 16385} {
		if p, slot, ok := l.Get(oid); p != 0 || slot != 0 || ok {
			t.Error("Get of none")
		}
	}
	is(t, "Clear", l.Clear(62), api.OK)
	if b, _ := s.Read(0); len(b) != 60*4 {
		t.Error("noughts at the end")
	}
	low(t, l, 1)
	is(t, "again", l.Set(60, 270, 1), api.OK)
	if p, slot, _ := l.Get(60); p != 270 || slot != 1 {
		t.Error("Set again")
	}
}

func TestLow(t *testing.T) { // P11.3
	_, s := space(t, 400)
	l, _ := Open(s)
	for oid := 1; oid <= api.MaxOids; oid++ {
		low(t, l, oid)
		if e := l.Set(oid, 265, oid%100); e != api.OK {
			t.Fatal(e)
		}
	}
	low(t, l, 0)
	if len(l.Oids()) != api.MaxOids {
		t.Error("Oids")
	}
	l.Clear(900)
	l.Clear(77)
	low(t, l, 77)
	l.Set(77, 265, 0)
	low(t, l, 900)
	o, e := Open(s)
	is(t, "Open", e, api.OK)
	low(t, o, 900)
	l.Set(900, 265, 0)
	low(t, l, 0)
}

func TestOpenWrong(t *testing.T) { // P11.1
	_, e := Open(nil)
	is(t, "no space", e, api.ErrNil)
	good := []byte{9, 1, 0, 0}
	for name, c := range map[string]struct {
		page int
		b    []byte
	}{
		"no bytes": {0, nil}, "odd": {0, []byte{9, 1, 0}}, "five": {0, append(bytes.Clone(good), 1)},
		"none at the end": {3, append(bytes.Clone(good), 0, 0, 0, 0)}, "a page below": {0, []byte{8, 1, 0, 0}}, "a page above": {0, []byte{0, 4, 0, 0}},
		"a slot of none": {0, append([]byte{0, 0, 1, 0}, good...)}, "beyond": {264, slices.Repeat(good, 17)}, "noughts": {0, make([]byte, 4)},
	} {
		_, s := space(t, 64)
		s.Write(c.page, c.b)
		l, e := Open(s)
		if is(t, name, e, api.ErrCorrupt); l != nil {
			t.Error("a table")
		}
	}
	_, s := space(t, 64)
	s.Write(264, slices.Repeat(good, 16))
	s.Write(2, append(make([]byte, 4), 0xff, 3, 0xff, 0xff))
	s.Write(265, []byte{1})
	l, e := Open(s)
	is(t, "Open", e, api.OK)
	if p, slot, ok := l.Get(126); p != 1023 || slot != Long || !ok || len(l.Oids()) != 17 {
		t.Error("what it says")
	}
}

func TestAgain(t *testing.T) { // P11.1
	s, l := made(t)
	l.Set(1, 265, 0)
	s.Commit(nil)
	l.Set(2, 266, 0)
	l.Clear(1)
	s.Abort()
	is(t, "Again", l.Again(), api.OK)
	if !slices.Equal(l.Oids(), []int{1}) {
		t.Error("Again")
	}
	low(t, l, 2)
	s.Write(5, nil)
	is(t, "Again", l.Again(), api.ErrCorrupt)
	if !slices.Equal(l.Oids(), []int{1}) {
		t.Error("with an error it is as it was")
	}
}

func TestFull(t *testing.T) { // P11.2: the error of the space
	d, s := space(t, 22)
	l, _ := Open(s)
	is(t, "Set", l.Set(1, 265, 0), api.OK)
	is(t, "Set", l.Set(63, 265, 0), api.OK)
	is(t, "Set", l.Set(125, 265, 0), api.ErrFull)
	if _, _, ok := l.Get(125); ok {
		t.Error("it is done")
	}
	low(t, l, 2)
	d.Off()
	is(t, "Set", l.Set(1, 266, 0), api.ErrPower)
	is(t, "Clear", l.Clear(1), api.ErrPower)
	is(t, "Again", l.Again(), api.ErrPower)
	if p, _, _ := l.Get(1); p != 265 {
		t.Error("it is done")
	}
}

func TestAgainstMap(t *testing.T) { // P11.4
	_, s := space(t, 64)
	l, _ := Open(s)
	want := map[int][2]int{}
	x := uint32(2)
	for i := range 2000 {
		x = x*1664525 + 1013904223
		oid := 1 + int(x>>8)%300
		if x>>30 == 0 {
			_, had := want[oid]
			if e := l.Clear(oid); (e == api.OK) != had {
				t.Fatal("Clear")
			}
			delete(want, oid)
		} else {
			at := [2]int{265 + int(x>>20)%700, int(x >> 16)}
			is(t, "Set", l.Set(oid, at[0], at[1]), api.OK)
			want[oid] = at
		}
		if i%97 != 0 {
			continue
		}
		o, e := Open(s)
		if e != api.OK || !slices.Equal(o.Oids(), l.Oids()) || len(want) != len(l.Oids()) {
			t.Fatal("another one says something else")
		}
		for oid, at := range want {
			p, slot, _ := l.Get(oid)
			q, slot2, _ := o.Get(oid)
			if p != at[0] || slot != at[1] || q != p || slot2 != slot {
				t.Fatal("an entry")
			}
		}
	}
}

func TestNone(t *testing.T) {
	var l *Table
	is(t, "Set", l.Set(0, 0, 0), api.ErrNil)
	is(t, "Clear", l.Clear(0), api.ErrNil)
	is(t, "Again", l.Again(), api.ErrNil)
	if _, _, ok := l.Get(1); ok || l.Oids() != nil {
		t.Error("none")
	}
	low(t, l, 0)
}
