package collect

import (
	"reflect"
	"slices"
	"strings"
	"testing"

	"aumbry/api"
	"aumbry/disk"
	"aumbry/store"
)

func is(t *testing.T, what string, got, want api.Errno) {
	t.Helper()
	if got != want {
		t.Errorf("%s: %d, not %d", what, got, want)
	}
}

func array(l ...int) api.Object {
	o := api.Object{Kind: api.ObjArray}
	for _, n := range l {
		o.Words = append(o.Words, api.Word{Kind: api.WordOid, Num: int64(n)})
	}
	return o
}

func text(n int) api.Object {
	return api.Object{Kind: api.ObjStr, Text: strings.Repeat("x", n)}
}

// made is a store with some objects, from 1 on, and roots to some of these.
func made(t *testing.T, sectors int, roots []int, objects ...api.Object) (*disk.Disk, *store.Store, *Collector) {
	t.Helper()
	d, _ := disk.New(sectors)
	store.Format(d)
	s, _ := store.Open(d, 8)
	for _, o := range objects {
		if _, e := s.Alloc(o); e != api.OK {
			t.Fatal(e)
		}
	}
	for i, oid := range roots {
		is(t, "SetRoot", s.SetRoot(string(rune('a'+i)), "t", oid), api.OK)
	}
	is(t, "Commit", s.Commit(), api.OK)
	c, e := New(s)
	is(t, "New", e, api.OK)
	return d, s, c
}

func step(t *testing.T, c *Collector, units int, pins []int, done bool, left int) {
	t.Helper()
	yes, e := c.Step(units, pins)
	if yes != done || e != api.OK || c.Left() != left {
		t.Errorf("Step(%d): %v, %d, %d are left; not %v, %d", units, yes, e, c.Left(), done, left)
	}
}

func TestExample(t *testing.T) { // P13.2, P13.3
	_, s, c := made(t, 64, []int{1}, array(3), array(), array())
	if c.Left() != 0 {
		t.Error("ahead of a round")
	}
	step(t, c, 1, nil, false, 1)
	step(t, c, 10, nil, true, 0)
	if !slices.Equal(s.Oids(), []int{1, 3}) || s.Turned() {
		t.Error("what is left")
	}
	step(t, c, 4, nil, true, 0)
}

func TestParts(t *testing.T) { // P13.2, P13.3: unit by unit
	_, s, c := made(t, 64, []int{5, 2}, array(), array(4, 5, 4), array(1), array(2), array(), array())
	step(t, c, 1, nil, false, 1) // 5 is marked; 2
	step(t, c, 1, nil, false, 1) // 2 is marked; 4
	step(t, c, 1, nil, false, 3) // 4 is marked: 1, 3, 6 are to go
	step(t, c, 1, nil, false, 2) // 1
	if !slices.Equal(s.Oids(), []int{2, 3, 4, 5, 6}) {
		t.Error("rising")
	}
	step(t, c, 2, nil, false, 3)
	step(t, c, 2, nil, false, 1)
	step(t, c, 1, nil, true, 0)
}

func TestWrong(t *testing.T) { // P13.1, P13.2
	if c, e := New(nil); c != nil || e != api.ErrNil {
		t.Error("New")
	}
	var none *Collector
	if _, e := none.Step(0, nil); e != api.ErrNil || none.Left() != 0 {
		t.Error("no collector")
	}
	d, s, c := made(t, 64, []int{1}, array(), array())
	for _, n := range []int{0, -1, 10001} {
		yes, e := c.Step(n, nil)
		if is(t, "Step", e, api.ErrArg); yes {
			t.Error("yes")
		}
	}
	s.SetRoot("b", "t", 2)
	_, e := c.Step(0, nil)
	is(t, "units ahead", e, api.ErrArg)
	_, e = c.Step(1, nil)
	is(t, "Turned", e, api.ErrState)
	s.Abort()
	step(t, c, 10000, nil, true, 0)
	d.Off()
	_, e = c.Step(1, nil)
	is(t, "off", e, api.ErrPower)
}

func TestEmpty(t *testing.T) {
	_, _, c := made(t, 64, nil)
	step(t, c, 1, nil, true, 0)
	_, s, c := made(t, 64, nil, array(), array(1))
	step(t, c, 1, nil, false, 1)
	step(t, c, 1, nil, true, 0)
	if len(s.Oids()) != 0 || s.Used() != 0 {
		t.Error("all go")
	}
}

func TestPins(t *testing.T) { // P13.2
	_, s, c := made(t, 64, []int{1}, array(2), array(), array(4), array(), array())
	step(t, c, 1, []int{3, 3, 99, -1, 1}, false, 2) // 1 is marked: 3, 2
	step(t, c, 1, []int{3, 5}, false, 3)            // 5 behind 2; 3 is marked: 4
	step(t, c, 3, nil, false, 5)                    // all are marked: to be moved
	step(t, c, 1, []int{3}, false, 4)
	step(t, c, 9, nil, true, 0)
	if len(s.Oids()) != 5 {
		t.Error("what pins lead to stays")
	}
	step(t, c, 2, nil, false, 3) // 3, 4, 5 are to go
	step(t, c, 1, []int{4}, false, 2)
	if !slices.Equal(s.Oids(), []int{1, 2, 3, 4, 5}) {
		t.Error("it begins anew")
	}
	step(t, c, 2, []int{4}, false, 2)
	step(t, c, 9, []int{4}, true, 0)
	if !slices.Equal(s.Oids(), []int{1, 2, 4}) {
		t.Error("a pin stays", s.Oids())
	}
}

func TestAnew(t *testing.T) { // P13.2: another epoch
	_, s, c := made(t, 64, []int{1}, array(2), array(), array())
	step(t, c, 2, nil, false, 1)
	s.Update(1, array(3))
	s.Commit()
	step(t, c, 1, nil, false, 1)
	step(t, c, 9, nil, true, 0)
	if !slices.Equal(s.Oids(), []int{1, 3}) {
		t.Error("what was published between", s.Oids())
	}
}

func TestNotThere(t *testing.T) { // what no root leads to may lead to what is not there
	_, s, c := made(t, 64, nil, array(9, 9), array(9))
	step(t, c, 3, []int{1, 2}, false, 2)
	step(t, c, 9, []int{1, 2}, true, 0)
	if !slices.Equal(s.Oids(), []int{1, 2}) {
		t.Error("pins stay")
	}
}

func TestFull(t *testing.T) { // P13.2: where there is no room
	objects := []api.Object{}
	for range 6 {
		objects = append(objects, text(400))
	}
	d, s, c := made(t, 52, []int{1, 2, 3}, objects...)
	for i := 0; ; i++ {
		yes, e := c.Step(3, nil)
		if e != api.OK || s.Turned() {
			t.Fatal(e)
		}
		if yes {
			break
		}
	}
	if !slices.Equal(s.Oids(), []int{1, 2, 3}) {
		t.Error("what is left", s.Oids())
	}
	o, e := store.Open(d, 4)
	is(t, "Open", e, api.OK)
	if !slices.Equal(o.Oids(), []int{1, 2, 3}) {
		t.Error("what is published")
	}
}

// reached lists what roots and pins lead to, rising.
func reached(s *store.Store, pins []int) []int {
	seen := map[int]bool{}
	var look func(oid int)
	look = func(oid int) {
		o, e := s.Read(oid)
		if seen[oid] || e != api.OK {
			return
		}
		seen[oid] = true
		for _, w := range o.Words {
			if w.Kind == api.WordOid {
				look(int(w.Num))
			}
		}
	}
	for _, r := range s.Roots() {
		_, oid, _ := s.Root(r.Name)
		look(oid)
	}
	for _, p := range pins {
		look(p)
	}
	var l []int
	for oid := range seen {
		l = append(l, oid)
	}
	slices.Sort(l)
	return l
}

func TestRounds(t *testing.T) { // P13.4
	for seed := uint32(1); seed < 60; seed++ {
		x := seed
		next := func(n int) int { x = x*1664525 + 1013904223; return int(x>>8) % n }
		var objects []api.Object
		n := 20 + next(60)
		for range n {
			if next(4) == 0 {
				objects = append(objects, text(next(300)))
			} else {
				objects = append(objects, array(1+next(n), 1+next(n)))
			}
		}
		_, s, c := made(t, 400, []int{1 + next(n), 1 + next(n)}, objects...)
		pins := []int{1 + next(n)}
		want := reached(s, pins)
		units, rounds := 1+next(9), 0
		for left := 2 * n; ; left -= units {
			if left <= 0 {
				t.Fatal("too many units")
			}
			yes, e := c.Step(units, pins)
			is(t, "Step", e, api.OK)
			if rounds++; yes {
				break
			}
		}
		if !slices.Equal(s.Oids(), want) {
			t.Fatalf("seed %d: %v, not %v", seed, s.Oids(), want)
		}
		total, rows := 0, 0
		for _, oid := range want {
			o, _ := s.Read(oid)
			if !reflect.DeepEqual(o, objects[oid-1]) {
				t.Fatal("an object was turned")
			}
			if size := 5 + 9*len(o.Words) + len(o.Text); size <= 246 {
				total += size + 1
			} else {
				rows += (size + 245) / 246
			}
		}
		if most := 2 + 2*((total+246)/247) + rows + 3 + 1; s.Used() > most {
			t.Errorf("seed %d: %d pages, at most %d", seed, s.Used(), most)
		}
	}
}

func TestPower(t *testing.T) { // P13.4
	for n := 1; n < 60; n++ {
		d, s, c := made(t, 80, []int{1, 4}, array(2), text(300), array(), array(1, 5), text(9), array(7), text(500))
		want := reached(s, nil)
		d.Arm(n)
		for {
			yes, e := c.Step(1+n%4, nil)
			if yes || e != api.OK {
				break
			}
		}
		d.Off()
		d.On([]int{0, 2, 3}, n%3)
		o, e := store.Open(d, 4)
		is(t, "Open", e, api.OK)
		if !slices.Equal(reached(o, nil), want) {
			t.Fatal("what is published was turned")
		}
	}
}
