package cache

import (
	"bytes"
	"testing"

	"aumbry/api"
	"aumbry/disk"
)

func made(t *testing.T, frames int) (*disk.Disk, *Cache) {
	t.Helper()
	d, _ := disk.New(16)
	c, e := New(d, frames)
	if e != api.OK {
		t.Fatal(e)
	}
	return d, c
}

func is(t *testing.T, what string, got, want api.Errno) {
	t.Helper()
	if got != want {
		t.Errorf("%s: %d, not %d", what, got, want)
	}
}

func held(t *testing.T, c *Cache, frames, dirty, pinned int) {
	t.Helper()
	if f, d, p := c.Held(); f != frames || d != dirty || p != pinned {
		t.Errorf("held %d, %d, %d; not %d, %d, %d", f, d, p, frames, dirty, pinned)
	}
}

func first(t *testing.T, c *Cache, s int) byte {
	t.Helper()
	b, e := c.Read(s)
	if e != api.OK || len(b) != 256 {
		t.Fatalf("Read(%d): %d", s, e)
	}
	return b[0]
}

func TestNew(t *testing.T) { // P5.1
	d, _ := disk.New(16)
	for _, n := range []int{0, -1, 1025} {
		c, e := New(d, n)
		if is(t, "New", e, api.ErrArg); c != nil {
			t.Error("a cache")
		}
	}
	for _, n := range []int{1, 1024} {
		c, e := New(d, n)
		is(t, "New", e, api.OK)
		held(t, c, 0, 0, 0)
	}
	_, e := New(nil, 0)
	is(t, "no disk", e, api.ErrNil)
}

func TestExample(t *testing.T) { // P5.2, P5.3, P5.5
	d, c := made(t, 2)
	c.Write(3, []byte{1})
	c.Write(4, []byte{2})
	held(t, c, 2, 2, 0)
	first(t, c, 5)
	held(t, c, 2, 1, 0)
	if d.Pending() != 1 {
		t.Error("the frame of 3 goes to the disk")
	}
	if first(t, c, 3) != 1 || first(t, c, 4) != 2 {
		t.Error("Read")
	}
	c.Pin(3)
	c.Pin(5)
	held(t, c, 2, 0, 2)
	_, e := c.Read(6)
	is(t, "all are pinned", e, api.ErrState)
	is(t, "all are pinned", c.Write(6, nil), api.ErrState)
	is(t, "Flush", c.Flush(), api.OK)
	if m := d.Image(); m[3][0] != 1 || m[4][0] != 2 || d.Pending() != 0 {
		t.Error("it does not last")
	}
}

func TestUse(t *testing.T) { // P5.2: the frame used longest ago goes
	for name, use := range map[string]func(*Cache){
		"read": func(c *Cache) { c.Read(1) }, "write": func(c *Cache) { c.Write(1, nil) },
		"pin": func(c *Cache) { c.Pin(1); c.Unpin(1) },
	} {
		_, c := made(t, 2)
		c.Read(1)
		c.Read(2)
		use(c)
		c.Read(3)
		if is(t, name, c.Drop(1), api.OK); c.Drop(2) != api.ErrNone {
			t.Error(name, "the other one stays")
		}
	}
}

func TestWrong(t *testing.T) { // P5.2, P5.3
	d, c := made(t, 2)
	for _, s := range []int{-1, 16} {
		_, e := c.Read(s)
		is(t, "Read", e, api.ErrArg)
		is(t, "Write", c.Write(s, nil), api.ErrArg)
		is(t, "Pin", c.Pin(s), api.ErrArg)
		is(t, "Unpin", c.Unpin(s), api.ErrNone)
		is(t, "Drop", c.Drop(s), api.ErrNone)
	}
	is(t, "too long", c.Write(1, make([]byte, 257)), api.ErrArg)
	held(t, c, 0, 0, 0)
	d.Write(7, []byte{1})
	d.Off()
	d.On(nil, 0)
	_, e := c.Read(7)
	is(t, "torn", e, api.ErrTorn)
	is(t, "torn", c.Pin(7), api.ErrTorn)
	is(t, "written anew", c.Write(7, []byte{4}), api.OK)
	if first(t, c, 7) != 4 {
		t.Error("Write reads nothing")
	}
	d.Off()
	_, e = c.Read(99)
	is(t, "power", e, api.ErrPower)
	_, e = c.Evict(0)
	is(t, "power", e, api.ErrPower)
	for _, e := range []api.Errno{c.Write(99, nil), c.Pin(99), c.Unpin(99), c.Drop(99), c.Flush()} {
		is(t, "power", e, api.ErrPower)
	}
	_, e = New(d, 0)
	is(t, "power", e, api.ErrPower)
}

func TestPins(t *testing.T) { // P5.3, P5.4
	_, c := made(t, 2)
	c.Pin(1)
	c.Pin(1)
	is(t, "Unpin", c.Unpin(1), api.OK)
	held(t, c, 1, 0, 1)
	is(t, "Drop", c.Drop(1), api.ErrState)
	if yes, e := c.Evict(0); yes || e != api.OK {
		t.Error("Evict of a pinned one")
	}
	is(t, "Unpin", c.Unpin(1), api.OK)
	is(t, "Unpin", c.Unpin(1), api.ErrNone)
	is(t, "Drop", c.Drop(1), api.OK)
	held(t, c, 0, 0, 0)
}

func TestEvict(t *testing.T) { // P5.4
	d, c := made(t, 4)
	if yes, e := c.Evict(0); yes || e != api.OK {
		t.Error("no frames")
	}
	for _, s := range []int{9, 2, 5} {
		c.Write(s, []byte{byte(s)})
	}
	if yes, _ := c.Evict(-1); yes {
		t.Error("below 0")
	}
	if yes, e := c.Evict(4); !yes || e != api.OK || c.Drop(5) != api.ErrNone {
		t.Error("4 modulo 3 is the frame of 5")
	}
	if b, _ := d.Read(5); b[0] != 5 || d.Steps() != 1 {
		t.Error("it was dirty")
	}
	is(t, "Drop", c.Drop(9), api.OK)
	if first(t, c, 9) != 0 {
		t.Error("what was dropped is there")
	}
	d.Arm(1)
	if yes, e := c.Evict(0); yes || e != api.ErrPower {
		t.Error("the power goes")
	}
	held(t, c, 2, 1, 0)
}

func TestFlush(t *testing.T) { // P5.5
	d, c := made(t, 4)
	for _, s := range []int{9, 2, 5} {
		c.Write(s, []byte{byte(s)})
	}
	d.Arm(2)
	is(t, "Flush", c.Flush(), api.ErrPower)
	held(t, c, 3, 2, 0)
	d.On([]int{0, 1}, -1)
	if m := d.Image(); m[2][0] != 2 || m[5][0] != 5 || m[9][0] != 0 {
		t.Error("not rising")
	}
	is(t, "Flush", c.Flush(), api.OK)
	held(t, c, 3, 0, 0)
	if d.Image()[9][0] != 9 || d.Pending() != 0 {
		t.Error("it does not last")
	}
	n := d.Steps()
	c.Flush()
	if d.Steps() != n+1 {
		t.Error("one barrier alone")
	}
}

func TestTransparent(t *testing.T) { // P5.6
	for frames := 1; frames < 6; frames++ {
		_, c := made(t, frames)
		want := [16][]byte{}
		x := uint32(frames)
		for i := 0; i < 3000; i++ {
			x = x*1664525 + 1013904223
			s, b := int(x>>28), []byte{byte(x >> 8), byte(x >> 16)}
			switch x >> 20 & 7 {
			case 0:
				c.Evict(int(x >> 4 & 7))
			case 1:
				c.Flush()
			case 2, 3:
				c.Write(s, b)
				want[s] = b
			default:
				got, e := c.Read(s)
				full := append(bytes.Clone(want[s]), make([]byte, 256-len(want[s]))...)
				if e != api.OK || !bytes.Equal(got, full) {
					t.Fatalf("%d frames: sector %d", frames, s)
				}
				got[0]++
			}
			if n, _, _ := c.Held(); n > frames {
				t.Fatal("too many frames")
			}
		}
	}
}

func TestNone(t *testing.T) {
	var c *Cache
	_, e := c.Read(0)
	is(t, "Read", e, api.ErrNil)
	_, e = c.Evict(0)
	is(t, "Evict", e, api.ErrNil)
	for _, e := range []api.Errno{c.Write(0, nil), c.Pin(0), c.Unpin(0), c.Drop(0), c.Flush()} {
		is(t, "no cache", e, api.ErrNil)
	}
	held(t, c, 0, 0, 0)
}
