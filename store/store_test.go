package store

import (
	"bytes"
	"reflect"
	"slices"
	"strconv"
	"strings"
	"testing"

	"aumbry/api"
	"aumbry/disk"
	"aumbry/record"
	"aumbry/shadow"
	"aumbry/slots"
	"aumbry/table"
)

func is(t *testing.T, what string, got, want api.Errno) {
	t.Helper()
	if got != want {
		t.Errorf("%s: %d, not %d", what, got, want)
	}
}

func num(n int) api.Word { return api.Word{Kind: api.WordInt, Num: int64(n)} }
func oid(n int) api.Word { return api.Word{Kind: api.WordOid, Num: int64(n)} }

func ref(w api.Word) api.Object { return api.Object{Kind: api.ObjRef, Words: []api.Word{w}} }
func text(n int) api.Object {
	return api.Object{Kind: api.ObjStr, Text: strings.Repeat("x", n)}
}
func array(l ...api.Word) api.Object { return api.Object{Kind: api.ObjArray, Words: l} }

func made(t *testing.T, sectors int) (*disk.Disk, *Store) {
	t.Helper()
	d, _ := disk.New(sectors)
	is(t, "Format", Format(d), api.OK)
	return d, opened(t, d)
}

func opened(t *testing.T, d *disk.Disk) *Store {
	t.Helper()
	s, e := Open(d, 4)
	if e != api.OK {
		t.Fatalf("Open: %d", e)
	}
	return s
}

func alloc(t *testing.T, s *Store, o api.Object) int {
	t.Helper()
	n, e := s.Alloc(o)
	if e != api.OK {
		t.Fatalf("Alloc: %d", e)
	}
	return n
}

func has(t *testing.T, s *Store, oid int, want api.Object) {
	t.Helper()
	if o, e := s.Read(oid); e != api.OK || !reflect.DeepEqual(o, want) {
		t.Errorf("object %d: %v, %d", oid, o, e)
	}
}

func at(t *testing.T, s *Store, oid, page, slot int) {
	t.Helper()
	if p, n, _ := s.table.Get(oid); p != page || n != slot {
		t.Errorf("object %d stands at %d, %d; not %d, %d", oid, p, n, page, slot)
	}
}

func TestExample(t *testing.T) { // P12.1 to P12.4
	d, s := made(t, 64)
	if s.Used() != 0 || s.Turned() || s.Epoch() != 1 || len(s.Oids()) != 0 || len(s.Roots()) != 0 {
		t.Error("a new store")
	}
	if alloc(t, s, ref(num(5))) != 1 || alloc(t, s, api.Object{Kind: 1, Words: []api.Word{oid(1), num(7)}}) != 2 {
		t.Error("Alloc")
	}
	is(t, "SetRoot", s.SetRoot("a", "int ref", 1), api.OK)
	if !s.Turned() {
		t.Error("Turned")
	}
	is(t, "Commit", s.Commit(), api.OK)
	if s.Turned() || s.Epoch() != 2 {
		t.Error("behind Commit")
	}
	s = opened(t, d)
	has(t, s, 1, ref(num(5)))
	if s.Used() != 3 || !slices.Equal(s.Oids(), []int{1, 2}) {
		t.Error("Used")
	}
	if stamp, n, ok := s.Root("a"); stamp != "int ref" || n != 1 || !ok {
		t.Error("Root")
	}
	is(t, "Free", s.Free(1), api.OK)
	is(t, "Commit", s.Commit(), api.ErrState)
	if !s.Turned() {
		t.Error("a refused Commit")
	}
	is(t, "Abort", s.Abort(), api.OK)
	has(t, s, 1, ref(num(5)))
	is(t, "what no root leads to", s.Free(2), api.OK)
	is(t, "Commit", s.Commit(), api.OK)
}

func TestPlaces(t *testing.T) { // P12.2: where records stand
	_, s := made(t, 200)
	alloc(t, s, text(241))   // a record of 246 bytes
	alloc(t, s, text(242))   // of 247: two pages
	alloc(t, s, text(0))     // of 5
	alloc(t, s, text(200))   // of 205
	alloc(t, s, text(30))    // of 35: behind it
	alloc(t, s, text(246*2)) // of 497: three pages
	at(t, s, 1, 265, 0)
	at(t, s, 2, 266, table.Long)
	at(t, s, 3, 268, 0)
	at(t, s, 4, 268, 1)
	at(t, s, 5, 269, 0)
	at(t, s, 6, 270, table.Long)
	if s.Used() != 9 {
		t.Error("Used", s.Used())
	}
	if b, _ := s.space.Read(271); len(b) != 248 || b[0] != 272-256 || b[1] != 1 {
		t.Error("a page of a row")
	}
	if b, _ := s.space.Read(272); len(b) != 2+497-492 || b[0] != 0 || b[1] != 0 {
		t.Error("the last page of a row")
	}
	has(t, s, 6, text(492))
	is(t, "Update", s.Update(2, text(3)), api.OK)
	at(t, s, 2, 268, 2)
	alloc(t, s, text(241))
	at(t, s, 7, 266, 0)
	is(t, "Update", s.Update(3, text(7)), api.OK)
	at(t, s, 3, 268, 3)
	is(t, "Free", s.Free(1), api.OK)
	if _, e := s.space.Read(265); e != api.ErrNone {
		t.Error("a page without a record is dropped")
	}
	if alloc(t, s, text(100)) != 1 {
		t.Error("the lowest oid")
	}
	at(t, s, 1, 269, 1)
	is(t, "Free", s.Free(6), api.OK)
	if slices.Contains(s.space.Pages(), 271) {
		t.Error("a row is dropped")
	}
}

func TestMove(t *testing.T) { // P12.2
	_, s := made(t, 200)
	for range 4 {
		alloc(t, s, text(20))
	}
	alloc(t, s, text(300))
	is(t, "Move", s.Move(9), api.ErrNone)
	s.SetRoot("a", "t", 1)
	s.Commit()
	is(t, "Move", s.Move(2), api.OK)
	if !s.Turned() {
		t.Error("Turned")
	}
	at(t, s, 2, 269, 0) // 268 has the roots' row
	is(t, "Move", s.Move(3), api.OK)
	at(t, s, 3, 269, 1)
	is(t, "Move", s.Move(5), api.OK)
	at(t, s, 5, 270, table.Long)
	is(t, "Move", s.Move(1), api.OK)
	at(t, s, 1, 269, 2)
	is(t, "Update", s.Update(1, text(241)), api.OK)
	at(t, s, 1, 266, 0)
	is(t, "Move", s.Move(4), api.OK) // the page of 1 has no room
	at(t, s, 4, 267, 0)
	for i := 1; i <= 4; i++ {
		want := 20
		if i == 1 {
			want = 241
		}
		has(t, s, i, text(want))
	}
	is(t, "Free", s.Free(4), api.OK)
	is(t, "Move", s.Move(2), api.OK)
	if p, _, _ := s.table.Get(2); p == 269 {
		t.Error("the object that was moved last is no more")
	}
	is(t, "Commit", s.Commit(), api.OK)
}

func TestErrors(t *testing.T) { // P12.2, P12.3
	_, s := made(t, 64)
	_, e := s.Alloc(api.Object{})
	is(t, "Alloc", e, api.ErrArg)
	_, e = s.Alloc(text(8188))
	is(t, "Alloc", e, api.ErrFull)
	alloc(t, s, ref(num(1)))
	for _, n := range []int{0, -1, 2, 16385} {
		_, e := s.Read(n)
		is(t, "Read", e, api.ErrNone)
		is(t, "Update", s.Update(n, api.Object{}), api.ErrNone)
		is(t, "Free", s.Free(n), api.ErrNone)
		is(t, "Move", s.Move(n), api.ErrNone)
	}
	is(t, "Update", s.Update(1, api.Object{}), api.ErrArg)
	is(t, "Update", s.Update(1, text(8188)), api.ErrFull)
	has(t, s, 1, ref(num(1)))
	for _, c := range []struct {
		name, stamp string
		n           int
		e           api.Errno
	}{
		{"", "t", 1, api.ErrArg}, {strings.Repeat("n", 33), "t", 1, api.ErrArg}, {"n", "", 1, api.ErrArg}, {"n", strings.Repeat("t", 201), 1, api.ErrArg},
		{"n", "t", 0, api.ErrArg}, {"n", "t", 16385, api.ErrArg}, {"n", "t", 2, api.ErrNone}, {strings.Repeat("n", 32), strings.Repeat("t", 200), 1, api.OK},
	} {
		is(t, "SetRoot", s.SetRoot(c.name, c.stamp, c.n), c.e)
	}
	if _, _, ok := s.Root("n"); ok || len(s.Roots()) != 1 {
		t.Error("a refused root")
	}
}

func TestRoots(t *testing.T) { // P12.3, P12.4
	d, s := made(t, 200)
	alloc(t, s, ref(num(1)))
	alloc(t, s, ref(num(2)))
	var want []api.Stamped
	for i := range api.MaxRoots {
		name := "r" + string(rune('a'+(i*7)%24)) + strings.Repeat("z", 30)
		is(t, "SetRoot", s.SetRoot(name, strings.Repeat("t", 200), 1), api.OK)
		want = append(want, api.Stamped{Name: name, Stamp: strings.Repeat("t", 200)})
	}
	is(t, "one more", s.SetRoot("zz", "t", 1), api.ErrFull)
	is(t, "another", s.SetRoot(want[3].Name, "u", 2), api.OK)
	want[3].Stamp = "u"
	slices.SortFunc(want, func(a, b api.Stamped) int { return strings.Compare(a.Name, b.Name) })
	if !slices.Equal(s.Roots(), want) {
		t.Error("Roots")
	}
	is(t, "Commit", s.Commit(), api.OK)
	used := s.Used()
	is(t, "Commit", s.Commit(), api.OK)
	s = opened(t, d)
	if !slices.Equal(s.Roots(), want) || s.Used() != used {
		t.Error("Roots of another store")
	}
	s.SetRoot(want[0].Name, "v", 2)
	is(t, "Commit", s.Commit(), api.OK)
	if s.Used() != used-1 {
		t.Error("the old row is taken away")
	}
	s.SetRoot(want[0].Name, "w", 1)
	is(t, "Abort", s.Abort(), api.OK)
	if stamp, n, _ := s.Root(want[0].Name); stamp != "v" || n != 2 || s.Turned() {
		t.Error("Abort")
	}
	is(t, "Commit", s.Commit(), api.OK)
	opened(t, d)
}

func TestFull(t *testing.T) { // P12.2, P12.4
	d, s := made(t, 40) // 38 free sectors: room for 20
	if s.space.Room() != 20 {
		t.Fatal("Room")
	}
	_, e := s.Alloc(text(246 * 4))
	is(t, "of four pages and a bit", e, api.ErrFull)
	alloc(t, s, text(246*3-5)) // three pages, and a table: 16 are left
	_, e = s.Alloc(ref(num(1)))
	is(t, "Alloc", e, api.ErrFull)
	is(t, "Update", s.Update(1, ref(num(1))), api.ErrFull)
	is(t, "SetRoot", s.SetRoot("a", "t", 1), api.OK)
	is(t, "Commit", s.Commit(), api.ErrFull)
	is(t, "Move", s.Move(1), api.OK)
	if s.space.Room() != 16 {
		t.Error("Room behind Move", s.space.Room())
	}
	is(t, "Free", s.Free(1), api.OK)
	is(t, "Abort", s.Abort(), api.OK)
	alloc(t, s, ref(num(1)))
	s.SetRoot("a", "t", 1)
	is(t, "Commit", s.Commit(), api.OK)
	is(t, "Update", s.Update(1, text(10)), api.ErrFull)
	opened(t, d)

	d, s = made(t, 22)
	is(t, "nothing fits", s.Commit(), api.OK)
	_, e = s.Alloc(text(1))
	is(t, "Alloc", e, api.ErrFull)
	opened(t, d)
}

func TestManyObjects(t *testing.T) { // P12.2: no oid is free, no page is free
	_, s := made(t, 4096)
	n := 0
	for ; n < api.MaxOids; n++ {
		if _, e := s.Alloc(text(0)); e != api.OK {
			break
		}
	}
	if n != api.MaxOids {
		t.Fatalf("%d objects", n)
	}
	_, e := s.Alloc(text(0))
	is(t, "no oid", e, api.ErrFull)
	_, s = made(t, 4096)
	for i := range 23 {
		if _, e := s.Alloc(text(8000)); e != api.OK {
			t.Fatal(i, e)
		}
	}
	_, e = s.Alloc(text(8000))
	is(t, "no page", e, api.ErrFull)
}

func TestNone(t *testing.T) {
	var s *Store
	_, e := s.Alloc(api.Object{})
	is(t, "Alloc", e, api.ErrNil)
	_, e = s.Read(0)
	is(t, "Read", e, api.ErrNil)
	_, e = s.Evict(0)
	is(t, "Evict", e, api.ErrNil)
	for _, e := range []api.Errno{s.Update(0, api.Object{}), s.Free(0), s.Move(0), s.SetRoot("", "", 0), s.Commit(), s.Abort()} {
		is(t, "none", e, api.ErrNil)
	}
	if _, _, ok := s.Root("a"); ok || s.Roots() != nil || s.Oids() != nil || s.Used() != 0 || s.Turned() || s.Epoch() != 0 {
		t.Error("none")
	}
	is(t, "Format", Format(nil), api.ErrNil)
	_, e = Open(nil, 0)
	is(t, "Open", e, api.ErrNil)
	d, s := made(t, 64)
	_, e = Open(d, 1)
	is(t, "Open", e, api.ErrArg)
	d.Off()
	_, e = s.Alloc(api.Object{})
	is(t, "Alloc", e, api.ErrPower)
	_, e = s.Read(0)
	is(t, "Read", e, api.ErrPower)
	for _, e := range []api.Errno{s.Update(0, api.Object{}), s.Free(0), s.Move(0), s.SetRoot("", "", 0), s.Commit(), s.Abort()} {
		is(t, "off", e, api.ErrPower)
	}
}

// laid is a disk whose space has some pages and a meta.
func laid(pages map[int][]byte, meta []byte) *disk.Disk {
	d, _ := disk.New(64)
	shadow.Format(d)
	s, _ := shadow.Open(d, 8)
	for p, b := range pages {
		s.Write(p, b)
	}
	s.Commit(meta)
	return d
}

func TestOpenCorrupt(t *testing.T) { // P12.1
	five, _ := record.Write(ref(num(5)))
	toTwo, _ := record.Write(ref(oid(2)))
	long, _ := record.Write(text(300))
	page := func(recs ...[]byte) []byte {
		p := slots.Empty()
		for _, r := range recs {
			p, _, _ = slots.Put(p, r)
		}
		return p
	}
	link := func(next int, b []byte) []byte { return append([]byte{byte(next), byte(next >> 8)}, b...) }
	entry := func(l ...int) (b []byte) {
		for _, x := range l {
			b = append(b, byte(x), byte(x>>8))
		}
		return b
	}
	rootA := "\x01a\x01t\x01\x00"
	type m = map[int][]byte
	for name, c := range map[string]struct {
		pages m
		meta  []byte
		ok    bool
	}{
		"nothing":                   {nil, nil, true},
		"an object":                 {m{0: entry(265, 0), 265: page(five)}, nil, true},
		"a root":                    {m{0: entry(265, 0), 265: page(five), 266: link(0, []byte(rootA))}, entry(266), true},
		"a long one":                {m{0: entry(265, 65535), 265: link(300, long[:246]), 300: link(0, long[246:])}, nil, true},
		"what leads nowhere":        {m{0: entry(265, 0), 265: page(toTwo)}, nil, true},
		"a root that leads nowhere": {m{0: entry(265, 0), 265: page(toTwo), 266: link(0, []byte(rootA))}, entry(266), false},
		"a root of none":            {m{266: link(0, []byte(rootA))}, entry(266), false},
		"two roots":                 {m{0: entry(265, 0), 265: page(five), 266: link(0, []byte(rootA+"\x01b\x01t\x01\x00"))}, entry(266), true},
		"roots that do not rise":    {m{0: entry(265, 0), 265: page(five), 266: link(0, []byte("\x01b\x01t\x01\x00"+rootA))}, entry(266), false},
		"a root twice":              {m{0: entry(265, 0), 265: page(five), 266: link(0, []byte(rootA+rootA))}, entry(266), false},
		"a root without a name":     {m{0: entry(265, 0), 265: page(five), 266: link(0, []byte("\x00\x01t\x01\x00"))}, entry(266), false},
		"a root without a stamp":    {m{0: entry(265, 0), 265: page(five), 266: link(0, []byte("\x01a\x00\x01\x00"))}, entry(266), false},
		"a long name":               {m{0: entry(265, 0), 265: page(five), 266: link(0, []byte("\x21"+strings.Repeat("a", 33)+"\x01t\x01\x00"))}, entry(266), false},
		"a long stamp":              {m{0: entry(265, 0), 265: page(five), 266: link(0, []byte("\x01a\xc9"+strings.Repeat("t", 201)+"\x01\x00"))}, entry(266), false},
		"a cut root":                {m{0: entry(265, 0), 265: page(five), 266: link(0, []byte(rootA+"\x01"))}, entry(266), false},
		"no roots in a row":         {m{266: link(0, nil)}, entry(266), false},
		"a short meta":              {m{0: entry(265, 0), 265: page(five), 266: link(0, []byte(rootA))}, []byte{10}, false},
		"a long meta":               {m{0: entry(265, 0), 265: page(five), 266: link(0, []byte(rootA))}, append(entry(266), 0), false},
		"a meta that leads nowhere": {m{}, entry(266), false},
		"a meta of 0":               {m{}, entry(0), false},
		"a page of no use":          {m{265: page(five)}, nil, false},
		"a slot of no use":          {m{0: entry(265, 0), 265: page(five, five)}, nil, false},
		"an empty slot":             {m{0: entry(265, 1), 265: page(five)}, nil, false},
		"no page":                   {m{0: entry(265, 0)}, nil, false},
		"two objects in a slot":     {m{0: entry(265, 0, 265, 0), 265: page(five)}, nil, false},
		"two objects":               {m{0: entry(265, 0, 265, 1), 265: page(five, five)}, nil, true},
		"a record that may not be":  {m{0: entry(265, 0), 265: page([]byte{9, 9, 9})}, nil, false},
		"no page of slots":          {m{0: entry(265, 0), 265: {9, 9, 9}}, nil, false},
		"a short one in a row":      {m{0: entry(265, 65535), 265: link(0, five)}, nil, false},
		"a row with a ring":         {m{0: entry(265, 65535), 265: link(265, long[:246])}, nil, false},
		"a row that ends early":     {m{0: entry(265, 65535), 265: link(300, long[:246])}, nil, false},
		"a row of short pages":      {m{0: entry(265, 65535), 265: link(300, long[:240]), 300: link(0, long[240:])}, nil, false},
		"a row with a blank end":    {m{0: entry(265, 65535), 265: link(300, long[:246]), 300: link(301, append(bytes.Clone(long[246:]), make([]byte, 246-59)...)), 301: link(0, nil)}, nil, false},
		"two rows in one":           {m{0: entry(265, 65535, 265, 65535), 265: link(300, long[:246]), 300: link(0, long[246:])}, nil, false},
		"a row through a table":     {m{0: entry(265, 65535), 265: link(1, long[:246]), 1: link(0, long[246:])}, nil, false},
		"a row's page of slots":     {m{0: entry(265, 65535, 300, 0), 265: link(300, long[:246]), 300: page(five)}, nil, false},
		"a wrong table":             {m{0: {1}}, nil, false},
	} {
		d := laid(c.pages, c.meta)
		n := d.Steps()
		s, e := Open(d, 4)
		if c.ok && e != api.OK || !c.ok && (e != api.ErrCorrupt || s != nil) {
			t.Errorf("%s: %d", name, e)
		}
		if d.Steps() != n {
			t.Errorf("%s: something is written", name)
		}
	}
}

// model is what a store should have.
type model struct {
	objects map[int]api.Object
	roots   map[string]int
}

func (m model) copied() model {
	c := model{map[int]api.Object{}, map[string]int{}}
	for k, o := range m.objects {
		c.objects[k] = o
	}
	for k, n := range m.roots {
		c.roots[k] = n
	}
	return c
}

// same asks whether a store is as a model.
func (m model) same(s *Store) bool {
	if len(s.Oids()) != len(m.objects) || len(s.Roots()) != len(m.roots) {
		return false
	}
	for k, o := range m.objects {
		if got, e := s.Read(k); e != api.OK || !reflect.DeepEqual(got, o) {
			return false
		}
	}
	for name, n := range m.roots {
		if stamp, k, ok := s.Root(name); !ok || k != n || stamp != "t"+strconv.Itoa(n) {
			return false
		}
	}
	return true
}

// step does one thing with both; the model is what was to be published, if the power goes in a Commit.
func step(t *testing.T, s *Store, x uint32, now, was *model) api.Errno {
	var o api.Object
	switch k := 1 + int(x>>12)%20; x >> 20 & 3 {
	case 0:
		o = text(int(x>>4) % 600)
	case 1:
		o = text(int(x>>4) % 40)
	case 2:
		o = array(num(int(x>>4)), oid(k))
	default:
		o = ref(oid(k))
	}
	n := 1 + int(x>>8)%20
	switch x >> 28 {
	case 0, 1, 2:
		k, e := s.Alloc(o)
		if e == api.OK {
			now.objects[k] = o
		}
		return e
	case 3, 4, 5:
		e := s.Update(n, o)
		if e == api.OK {
			now.objects[n] = o
		}
		return e
	case 6:
		e := s.Free(n)
		if e == api.OK {
			delete(now.objects, n)
		}
		return e
	case 7, 8, 9:
		return s.Move(n)
	case 10:
		name := string(rune('a' + x>>16&3))
		e := s.SetRoot(name, "t"+strconv.Itoa(n), n)
		if e == api.OK {
			now.roots[name] = n
		}
		return e
	case 11, 12:
		_, e := s.Evict(int(x >> 8 & 15))
		return e
	case 13:
		e := s.Abort()
		if e == api.OK {
			*now = was.copied()
			if !now.same(s) && !s.disk.Dead() {
				t.Fatal("Abort")
			}
		}
		return e
	default:
		e := s.Commit()
		if e == api.OK {
			*was = now.copied()
		}
		return e
	}
}

func TestPower(t *testing.T) { // P12.5
	for seed := uint32(1); seed < 120; seed++ {
		d, s := made(t, 48+int(seed%40))
		now, was := model{map[int]api.Object{}, map[string]int{}}, model{map[int]api.Object{}, map[string]int{}}
		x := seed
		for round := range 3 {
			d.Arm(20 + int(seed*11+uint32(round)*17)%150)
			for i := 0; ; i++ {
				x = x*1664525 + 1013904223
				before := now.copied()
				e := step(t, s, x, &now, &was)
				if e == api.ErrPower || i > 600 {
					now = before
					break
				}
				if e != api.OK && !now.same(s) && !d.Dead() { // reading may put a frame out, and the power may go at that
					t.Fatalf("an error %d turned something", e)
				}
			}
			d.Off()
			n := d.Pending()
			var keep []int
			for i := range n {
				if (seed>>(i%5))&1 == 1 {
					keep = append(keep, i)
				}
			}
			d.On(keep, n-1-int(seed+uint32(round))%4)
			s = opened(t, d)
			if !was.same(s) {
				if !now.same(s) {
					t.Fatalf("seed %d: neither what was published nor what would have been", seed)
				}
				was = now.copied()
			}
			now = was.copied()
		}
	}
}
