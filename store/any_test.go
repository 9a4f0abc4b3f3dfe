package store

import (
	"reflect"
	"testing"

	"aumbry/api"
	"aumbry/disk"
	"aumbry/shadow"
)

// TestAnyPages opens stores some bytes of whose pages are others than they were.
func TestAnyPages(t *testing.T) { // P12.1, P12.5, W4
	d, s := made(t, 100)
	for i := range 12 {
		alloc(t, s, array(oid(1+i%3), num(i), oid(1+i)))
		alloc(t, s, text(i*7))
	}
	alloc(t, s, text(700))
	alloc(t, s, array(oid(25), oid(3)))
	s.SetRoot("one", "int", 26)
	s.SetRoot("two", "string", 9)
	is(t, "Commit", s.Commit(), api.OK)
	x := uint32(1)
	next := func(n int) int { x = x*1664525 + 1013904223; return int(x>>8) % n }
	good, bad := 0, 0
	for range 2000 {
		c := d.Copy()
		space, _ := shadow.Open(c, 8)
		pages := space.Pages()
		meta := space.Meta()
		for range 1 + next(2) {
			p := pages[next(len(pages))]
			b, _ := space.Read(p)
			switch k := next(12); {
			case k == 0 && len(b) > 0:
				b = b[:next(len(b))]
			case k == 1:
				p = 265 + next(20)
			case k == 2:
				meta = []byte{byte(9 + next(30)), 1}[:1+next(2)]
			case k == 3 && len(b) < 247:
				b = append(b, byte(next(5)))
			case len(b) > 0:
				b[next(len(b))] = byte(next(30))
			}
			space.Write(p, b)
		}
		space.Commit(meta)
		steps := c.Steps()
		o, e := Open(c, 4)
		if c.Steps() != steps || e != api.OK && e != api.ErrCorrupt {
			t.Fatal(e)
		}
		if e != api.OK {
			bad++
			continue
		}
		good++
		used(t, c, o)
	}
	if good < 50 || bad < 50 {
		t.Error(good, bad)
	}
}

// used does all sorts of things with a store that was opened, which must be whole ahead of them and behind.
func used(t *testing.T, d *disk.Disk, s *Store) {
	t.Helper()
	objects := map[int]api.Object{}
	for _, n := range s.Oids() {
		o, e := s.Read(n)
		if e != api.OK {
			t.Fatal(e)
		}
		objects[n] = o
		is(t, "Move", s.Move(n), api.OK)
		is(t, "Update", s.Update(n, o), api.OK)
	}
	n := alloc(t, s, text(300))
	is(t, "Free", s.Free(n), api.OK)
	is(t, "Commit", s.Commit(), api.OK)
	s = opened(t, d)
	if len(s.Oids()) != len(objects) {
		t.Fatal("objects")
	}
	for n, o := range objects {
		if got, e := s.Read(n); e != api.OK || !reflect.DeepEqual(got, o) {
			t.Fatal("an object")
		}
	}
}
