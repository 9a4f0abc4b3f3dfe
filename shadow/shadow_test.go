package shadow

import (
	"bytes"
	"slices"
	"strconv"
	"testing"

	"aumbry/api"
	"aumbry/block"
	"aumbry/disk"
)

func is(t *testing.T, what string, got, want api.Errno) {
	t.Helper()
	if got != want {
		t.Errorf("%s: %d, not %d", what, got, want)
	}
}

func formatted(t *testing.T, sectors int) *disk.Disk {
	t.Helper()
	d, _ := disk.New(sectors)
	is(t, "Format", Format(d), api.OK)
	return d
}

func opened(t *testing.T, d *disk.Disk, frames int) *Space {
	t.Helper()
	s, e := Open(d, frames)
	if e != api.OK {
		t.Fatalf("Open: %d", e)
	}
	return s
}

func has(t *testing.T, s *Space, page int, want string) {
	t.Helper()
	if b, e := s.Read(page); e != api.OK || string(b) != want {
		t.Errorf("page %d: %q, %d; not %q", page, b, e, want)
	}
}

func TestFormat(t *testing.T) { // P8.1
	d, _ := disk.New(16)
	d.Write(0, []byte{1})
	d.Write(1, []byte{1})
	is(t, "Format", Format(d), api.OK)
	if d.Steps() != 6 || d.Pending() != 0 {
		t.Error("steps")
	}
	body := append([]byte("aum1\x01\x00\x00\x00"), make([]byte, 18)...)
	want, _ := block.Seal(1, body)
	if m := d.Image(); !bytes.Equal(m[0], make([]byte, 256)) || !bytes.Equal(m[1], want) {
		t.Error("what it lays")
	}
	is(t, "no disk", Format(nil), api.ErrNil)
	for n := 1; n <= 4; n++ {
		d, _ := disk.New(16)
		d.Arm(n)
		is(t, "the power goes", Format(d), api.ErrPower)
	}
}

func TestExample(t *testing.T) { // P8.2 to P8.5
	d := formatted(t, 32)
	s := opened(t, d, 4)
	if len(s.Pages()) != 0 || s.Epoch() != 1 || s.Room() != 12 || len(s.Meta()) != 0 {
		t.Error("a new space")
	}
	is(t, "Write", s.Write(7, []byte("a")), api.OK)
	is(t, "Write", s.Write(7, []byte("b")), api.OK)
	if s.Room() != 11 || !slices.Equal(s.Pages(), []int{7}) || s.Epoch() != 1 {
		t.Error("behind Write")
	}
	has(t, s, 7, "b")
	is(t, "Commit", s.Commit([]byte("m")), api.OK)
	if string(s.Meta()) != "m" || s.Epoch() != 2 || !slices.Equal(s.Pages(), []int{7}) {
		t.Error("behind Commit")
	}
	m := d.Image()
	if kind, body, _ := block.Open(m[2]); kind != 3 || string(body) != "b" {
		t.Error("the page stands in the sector 2")
	}
	if kind, body, _ := block.Open(m[3]); kind != 2 || !bytes.Equal(body, append(make([]byte, 14), 2, 0)) {
		t.Error("the part stands in the sector 3")
	}
	want := append(append([]byte("aum1\x02\x00\x00\x00\x03"), make([]byte, 17)...), 'm')
	if kind, body, _ := block.Open(m[0]); kind != 1 || !bytes.Equal(body, want) {
		t.Errorf("the root: %x", body)
	}
	s.Write(7, []byte("c"))
	has(t, s, 7, "c")
	is(t, "Abort", s.Abort(), api.OK)
	has(t, s, 7, "b")
}

func TestPages(t *testing.T) { // P8.3
	s := opened(t, formatted(t, 40), 2)
	for _, p := range []int{-1, 1024} {
		_, e := s.Read(p)
		is(t, "Read", e, api.ErrArg)
		is(t, "Write", s.Write(p, nil), api.ErrArg)
		is(t, "Drop", s.Drop(p), api.ErrArg)
	}
	is(t, "too long", s.Write(0, make([]byte, 249)), api.ErrArg)
	_, e := s.Read(1)
	is(t, "Read", e, api.ErrNone)
	is(t, "Drop", s.Drop(1), api.ErrNone)
	is(t, "none", s.Write(1023, nil), api.OK)
	is(t, "full", s.Write(0, make([]byte, 248)), api.OK)
	has(t, s, 1023, "")
	has(t, s, 0, string(make([]byte, 248)))
	is(t, "Drop", s.Drop(0), api.OK)
	_, e = s.Read(0)
	is(t, "Read", e, api.ErrNone)
	if !slices.Equal(s.Pages(), []int{1023}) {
		t.Error("Pages")
	}
}

func TestFull(t *testing.T) { // P8.3, P8.5
	s := opened(t, formatted(t, 24), 3)
	if s.Room() != 4 {
		t.Error("Room", s.Room())
	}
	for i := range 4 {
		is(t, "Write", s.Write(i, []byte{byte(i)}), api.OK)
	}
	is(t, "Write", s.Write(4, nil), api.ErrFull)
	is(t, "a turned one", s.Write(3, []byte("x")), api.OK)
	is(t, "Commit", s.Commit(nil), api.OK)
	if s.Room() != 0 {
		t.Error("Room behind Commit", s.Room())
	}
	is(t, "Write", s.Write(3, nil), api.ErrFull)
	is(t, "Drop", s.Drop(2), api.OK)
	is(t, "Drop", s.Drop(1), api.OK)
	is(t, "Commit", s.Commit(nil), api.OK)
	if s.Room() != 1 {
		t.Error("Room behind Drop", s.Room())
	}
	has(t, s, 3, "x")
	for range 50 {
		is(t, "a Commit has room always", s.Commit(nil), api.OK)
	}
}

func TestCommit(t *testing.T) { // P8.4
	d := formatted(t, 64)
	s := opened(t, d, 4)
	is(t, "meta", s.Commit(make([]byte, 201)), api.ErrArg)
	meta := bytes.Repeat([]byte{5}, 200)
	s.Write(0, []byte("a"))
	s.Write(500, []byte("b"))
	is(t, "Commit", s.Commit(meta), api.OK)
	meta[0] = 1
	got := s.Meta()
	if got[0] != 5 {
		t.Error("the meta is kept as it was handed in")
	}
	got[0] = 1
	s.Write(500, []byte("c"))
	s.Write(900, []byte("d"))
	s.Drop(0)
	is(t, "Commit", s.Commit(nil), api.OK)
	s = opened(t, d, 4)
	if !slices.Equal(s.Pages(), []int{500, 900}) || s.Epoch() != 3 || len(s.Meta()) != 0 {
		t.Error("what was published", s.Pages())
	}
	has(t, s, 500, "c")
	is(t, "nothing was turned", s.Commit(nil), api.OK)
	if s.Epoch() != 4 {
		t.Error("the epoch")
	}
}

func TestAbort(t *testing.T) { // P8.4
	for frames := 2; frames < 5; frames++ {
		d := formatted(t, 64)
		s := opened(t, d, frames)
		for i := range 5 {
			s.Write(i, []byte{byte('a' + i)})
		}
		s.Commit(nil)
		room := s.Room()
		for i := range 4 {
			s.Write(i, []byte("x"))
		}
		s.Drop(4)
		s.Write(4, []byte("y"))
		s.Drop(0)
		s.Write(9, []byte("z"))
		is(t, "Abort", s.Abort(), api.OK)
		if !slices.Equal(s.Pages(), []int{0, 1, 2, 3, 4}) || s.Room() != room || s.Epoch() != 2 {
			t.Error("Abort")
		}
		for i := range 5 {
			has(t, s, i, string(rune('a'+i)))
		}
	}
}

func TestEvict(t *testing.T) { // P8.5
	d := formatted(t, 32)
	s := opened(t, d, 4)
	s.Write(3, []byte("a"))
	if yes, e := s.Evict(0); !yes || e != api.OK || d.Pending() != 1 {
		t.Error("Evict")
	}
	if yes, e := s.Evict(-1); yes || e != api.OK {
		t.Error("Evict of -1")
	}
	has(t, s, 3, "a")
}

func TestOpenWrong(t *testing.T) { // P8.2
	d := formatted(t, 32)
	_, e := Open(nil, 4)
	is(t, "no disk", e, api.ErrNil)
	for _, n := range []int{-1, 0, 1, 1025} {
		_, e := Open(d, n)
		is(t, "frames", e, api.ErrArg)
	}
	raw, _ := disk.New(32)
	_, e = Open(raw, 4)
	is(t, "noughts", e, api.ErrCorrupt)
	d.Off()
	_, e = Open(d, 4)
	is(t, "off", e, api.ErrPower)
}

// crafted is a disk with a root, a part and pages of any kind.
func crafted(change func(m [][]byte, root []byte) []byte) *disk.Disk {
	d, _ := disk.New(32)
	m := d.Image()
	m[2], _ = block.Seal(3, []byte("page"))
	m[3], _ = block.Seal(2, []byte{2, 0})
	root := append(append([]byte("aum1\x02\x00\x00\x00\x03"), make([]byte, 17)...), 'm')
	m[0], _ = block.Seal(1, change(m, root))
	d, _ = disk.Load(m)
	return d
}

func TestOpenCorrupt(t *testing.T) { // P8.2
	same := func(m [][]byte, r []byte) []byte { return r }
	s := opened(t, crafted(same), 2)
	has(t, s, 0, "page")
	part := func(b ...byte) func(m [][]byte, r []byte) []byte {
		return func(m [][]byte, r []byte) []byte { m[3], _ = block.Seal(2, b); return r }
	}
	root := func(at int, x byte) func(m [][]byte, r []byte) []byte {
		return func(m [][]byte, r []byte) []byte { r[at] = x; return r }
	}
	for name, change := range map[string]func(m [][]byte, r []byte) []byte{
		"magic": root(0, 'b'), "epoch 0": root(4, 0), "epoch of the other sector": root(4, 3),
		"short":                 func(m [][]byte, r []byte) []byte { return r[:25] },
		"a long meta":           func(m [][]byte, r []byte) []byte { return append(r, make([]byte, 200)...) },
		"a part in a root":      root(8, 1),
		"a part beyond":         root(8, 32),
		"two parts in one":      root(10, 3),
		"a part of no block":    root(8, 5),
		"a part that is a page": root(8, 2),
		"an empty part":         part(), "an odd part": part(2), "a part that ends with noughts": part(2, 0, 0, 0),
		"a page in the part's sector": part(3, 0), "two pages in one": part(2, 0, 2, 0), "a page in a root": part(1, 0),
		"a page beyond": part(32, 0), "a page of no block": part(9, 0),
		"a page of another kind": func(m [][]byte, r []byte) []byte { m[2], _ = block.Seal(2, []byte{9, 0}); return r },
		"a torn page":            func(m [][]byte, r []byte) []byte { m[2] = nil; return r },
		"a torn part":            func(m [][]byte, r []byte) []byte { m[3] = nil; return r },
	} {
		d := crafted(change)
		if s, e := Open(d, 4); s != nil || e != api.ErrCorrupt {
			t.Errorf("%s: %d", name, e)
		}
		if d.Steps() != 0 {
			t.Error("something is written")
		}
	}
	d := crafted(func(m [][]byte, r []byte) []byte {
		m[1] = nil
		return append(r[:26], make([]byte, 200)...)
	})
	opened(t, d, 2)
	newer := crafted(func(m [][]byte, r []byte) []byte {
		b := append([]byte("aum1\x03\x00\x00\x00\x05"), make([]byte, 17)...)
		m[1], _ = block.Seal(1, b)
		return r
	})
	if _, e := Open(newer, 2); e != api.ErrCorrupt {
		t.Error("the root of the higher epoch counts")
	}
}

func TestLastEpoch(t *testing.T) { // P8.4
	d := crafted(func(m [][]byte, r []byte) []byte {
		copy(r[4:], "\xff\xff\xff\xff")
		m[1], _ = block.Seal(1, r)
		r[0] = 0
		return r
	})
	s := opened(t, d, 2)
	s.Write(1, []byte("x"))
	is(t, "Commit", s.Commit(nil), api.ErrFull)
	has(t, s, 1, "x")
	if s.Epoch() != 1<<32-1 {
		t.Error("the epoch")
	}
}

func TestNone(t *testing.T) {
	var s *Space
	_, e := s.Read(-1)
	is(t, "Read", e, api.ErrNil)
	_, e = s.Evict(-1)
	is(t, "Evict", e, api.ErrNil)
	for _, e := range []api.Errno{s.Write(-1, nil), s.Drop(-1), s.Commit(make([]byte, 300)), s.Abort()} {
		is(t, "none", e, api.ErrNil)
	}
	if s.Pages() != nil || s.Meta() != nil || s.Epoch() != 0 || s.Room() != 0 {
		t.Error("none")
	}
	d := formatted(t, 32)
	s = opened(t, d, 2)
	d.Off()
	_, e = s.Read(-1)
	is(t, "Read", e, api.ErrPower)
	_, e = s.Evict(-1)
	is(t, "Evict", e, api.ErrPower)
	for _, e := range []api.Errno{s.Write(-1, nil), s.Drop(-1), s.Commit(make([]byte, 300)), s.Abort()} {
		is(t, "off", e, api.ErrPower) // P8.6
	}
}

// told is all that a space has.
func told(t *testing.T, s *Space) string {
	t.Helper()
	out := string(s.Meta()) + ";"
	for _, p := range s.Pages() {
		b, e := s.Read(p)
		if e != api.OK {
			t.Fatalf("page %d: %d", p, e)
		}
		out += strconv.Itoa(p) + "=" + string(b) + ";"
	}
	return out
}

// work does things with a space till the power goes, and tells what was published, and what might have been.
func work(t *testing.T, s *Space, seed uint32) (last, next string) {
	last = told(t, s)
	x := seed
	for {
		x = x*1664525 + 1013904223
		e := api.OK
		switch page := int(x>>8) % 12 * 90; x >> 28 {
		case 0, 1:
			meta := []byte{'m', byte('a' + x>>20&15)}
			own := s.own.Pages()
			next = string(meta) + ";"
			for _, p := range own {
				b, _ := s.Read(p)
				next += strconv.Itoa(p) + "=" + string(b) + ";"
			}
			if e = s.Commit(meta); e == api.OK {
				last = next
			}
		case 2:
			e = s.Abort()
			if e == api.OK && told(t, s) != last {
				t.Fatal("Abort")
			}
		case 3, 4:
			e = s.Drop(page)
		case 5:
			_, e = s.Evict(int(x >> 4 & 7))
		default:
			e = s.Write(page, []byte{byte('a' + x>>16&15), byte('a' + x>>20&15)})
		}
		if e == api.ErrPower {
			return last, next
		}
		next = last
	}
}

func TestPower(t *testing.T) { // P8.7
	for seed := uint32(1); seed < 160; seed++ {
		d := formatted(t, 32+int(seed%16))
		s := opened(t, d, 2+int(seed%5))
		for round := range 4 {
			d.Arm(1 + int(seed*7+uint32(round)*13)%40)
			last, next := work(t, s, seed*31+uint32(round))
			n := d.Pending()
			var keep []int
			for i := range n {
				if seed>>(i%7)&1 == 1 {
					keep = append(keep, i)
				}
			}
			d.On(keep, n-1-int(seed)%3)
			s = opened(t, d, 2+int(seed%5))
			if got := told(t, s); got != last && got != next {
				t.Fatalf("seed %d: %s; neither %s nor %s", seed, got, last, next)
			}
		}
	}
}
