package disk

import (
	"bytes"
	"math"
	"testing"

	"aumbry/api"
)

func full(c byte) []byte { return append([]byte{c}, make([]byte, 255)...) }

func made(t *testing.T, n int) *Disk {
	t.Helper()
	d, e := New(n)
	if e != api.OK {
		t.Fatal(e)
	}
	return d
}

func is(t *testing.T, what string, got, want api.Errno) {
	t.Helper()
	if got != want {
		t.Errorf("%s: %d, not %d", what, got, want)
	}
}

func TestNew(t *testing.T) { // P3.1
	for _, n := range []int{15, 0, -1, 4097, math.MaxInt} {
		if d, e := New(n); d != nil || e != api.ErrArg {
			t.Errorf("New of %d: %d", n, e)
		}
	}
	for _, n := range []int{16, 4096} {
		d := made(t, n)
		if d.Sectors() != n || d.Pending() != 0 || d.Steps() != 0 || d.Dead() {
			t.Errorf("New of %d", n)
		}
		b, e := d.Read(n - 1)
		if e != api.OK || !bytes.Equal(b, make([]byte, 256)) {
			t.Error("no noughts")
		}
	}
}

func TestExample(t *testing.T) { // P3.2 to P3.7
	d := made(t, 16)
	is(t, "Write", d.Write(3, []byte{7}), api.OK)
	if b, e := d.Read(3); e != api.OK || !bytes.Equal(b, full(7)) {
		t.Error("Read of what is pending")
	}
	if !bytes.Equal(d.Image()[3], make([]byte, 256)) {
		t.Error("it lasts already")
	}
	is(t, "Arm", d.Arm(2), api.OK)
	is(t, "Write", d.Write(4, []byte{1}), api.OK)
	is(t, "Write", d.Write(4, []byte{2}), api.ErrPower)
	_, e := d.Read(4)
	is(t, "Read", e, api.ErrPower)
	is(t, "Write", d.Write(4, nil), api.ErrPower)
	is(t, "Barrier", d.Barrier(), api.ErrPower)
	if !d.Dead() || d.Pending() != 3 || d.Steps() != 3 {
		t.Error("state", d.Dead(), d.Pending(), d.Steps())
	}
	is(t, "On", d.On([]int{1}, 2), api.OK)
	if b, e := d.Read(3); e != api.OK || !bytes.Equal(b, make([]byte, 256)) {
		t.Error("sector 3")
	}
	b, e := d.Read(4)
	if is(t, "Read of a torn one", e, api.ErrTorn); b != nil {
		t.Error("bytes of a torn one")
	}
	if d.Dead() || d.Pending() != 0 || d.Steps() != 3 || len(d.Image()[4]) != 0 {
		t.Error("behind On")
	}
	is(t, "Write", d.Write(4, []byte{5}), api.OK)
	is(t, "not armed", d.Barrier(), api.OK)
	if b, e := d.Read(4); e != api.OK || b[0] != 5 {
		t.Error("a torn sector is written")
	}
}

func TestReadWrite(t *testing.T) { // P3.2, P3.3
	d := made(t, 16)
	for _, s := range []int{-1, 16, math.MaxInt, math.MinInt} {
		_, e := d.Read(s)
		is(t, "Read", e, api.ErrArg)
		is(t, "Write", d.Write(s, nil), api.ErrArg)
	}
	is(t, "too long", d.Write(0, make([]byte, 257)), api.ErrArg)
	if d.Steps() != 0 || d.Pending() != 0 {
		t.Error("a refused write is a step")
	}
	b := bytes.Repeat([]byte{8}, 256)
	is(t, "full", d.Write(0, b), api.OK)
	b[0] = 1
	got, _ := d.Read(0)
	if got[0] != 8 {
		t.Error("what was handed in is kept")
	}
	got[1] = 1
	if again, _ := d.Read(0); again[1] != 8 {
		t.Error("what is answered is kept")
	}
	d.Off()
	is(t, "power ahead of the argument", d.Write(99, nil), api.ErrPower)
	_, e := d.Read(99)
	is(t, "power ahead of the argument", e, api.ErrPower)
}

func TestBarrier(t *testing.T) { // P3.4
	d := made(t, 16)
	d.Write(1, []byte{1})
	d.Write(1, []byte{2})
	d.Arm(1)
	is(t, "Barrier", d.Barrier(), api.ErrPower)
	if d.Pending() != 2 || d.Steps() != 3 {
		t.Error("something was done")
	}
	d.On([]int{0}, -1)
	if b, _ := d.Read(1); b[0] != 1 {
		t.Error("the first one lasts")
	}
	d.Write(1, []byte{3})
	d.Write(1, []byte{4})
	is(t, "Barrier", d.Barrier(), api.OK)
	if d.Pending() != 0 || d.Image()[1][0] != 4 {
		t.Error("order")
	}
	d.Off()
	d.On(nil, 0)
	if b, _ := d.Read(1); b[0] != 4 {
		t.Error("what lasts is lost")
	}
}

func TestArm(t *testing.T) { // P3.5
	d := made(t, 16)
	is(t, "Arm", d.Arm(-1), api.ErrArg)
	d.Arm(1)
	d.Arm(0)
	is(t, "not armed", d.Barrier(), api.OK)
	d.Arm(3)
	d.Write(0, nil)
	d.Barrier()
	d.Write(99, nil)
	is(t, "the third", d.Write(0, nil), api.ErrPower)
	is(t, "off", d.Arm(1), api.ErrPower)
	d.On(nil, -1)
	is(t, "armed no more", d.Barrier(), api.OK)
	d.Arm(1)
	d.Off()
	d.On(nil, -1)
	is(t, "On unarms", d.Barrier(), api.OK)
}

func TestOn(t *testing.T) { // P3.6
	d := made(t, 16)
	is(t, "On", d.On(nil, 0), api.ErrState)
	d.Write(1, []byte{1})
	d.Write(1, []byte{2})
	d.Write(1, []byte{3})
	c := d.Copy()
	d.Off()
	d.On([]int{2, 0, 0, 77, -5}, 1)
	if b, e := d.Read(1); e != api.OK || b[0] != 3 {
		t.Error("one behind the torn one lasts")
	}
	c.Off()
	c.On([]int{0, 1, 2}, 2)
	if _, e := c.Read(1); e != api.ErrTorn {
		t.Error("torn comes ahead of keep")
	}
}

func TestImage(t *testing.T) { // P3.7
	d := made(t, 16)
	d.Write(2, []byte{9})
	d.Barrier()
	d.Write(5, []byte{1})
	d.Off()
	m := d.Image()
	if len(m) != 16 || m[2][0] != 9 || m[5][0] != 0 {
		t.Error("Image")
	}
	m[3] = nil
	l, e := Load(m)
	if e != api.OK || l.Dead() || l.Steps() != 0 || l.Pending() != 0 {
		t.Error("Load")
	}
	m[2][0] = 1
	if b, _ := l.Read(2); b[0] != 9 {
		t.Error("an image is kept")
	}
	if _, e := l.Read(3); e != api.ErrTorn {
		t.Error("nothing in an image")
	}
	for _, bad := range [][][]byte{nil, make([][]byte, 15), make([][]byte, 4097), append(make([][]byte, 15), make([]byte, 255)), append(make([][]byte, 15), make([]byte, 257))} {
		if l, e := Load(bad); l != nil || e != api.ErrArg {
			t.Error("Load of a wrong image")
		}
	}
}

func TestCopy(t *testing.T) { // P3.7
	d := made(t, 16)
	d.Arm(3)
	d.Write(2, []byte{9})
	c := d.Copy()
	c.Write(2, []byte{8})
	is(t, "armed as well", c.Barrier(), api.ErrPower)
	if d.Dead() || d.Steps() != 1 || d.Pending() != 1 || c.Steps() != 3 || c.Pending() != 2 {
		t.Error("they are one")
	}
	if b, _ := d.Read(2); b[0] != 9 {
		t.Error("they are one")
	}
	if !c.Copy().Dead() {
		t.Error("the power")
	}
}

func TestNone(t *testing.T) { // P3.8
	var d *Disk
	d.Off()
	_, e := d.Read(0)
	is(t, "Read", e, api.ErrNil)
	is(t, "Write", d.Write(-1, nil), api.ErrNil)
	is(t, "Barrier", d.Barrier(), api.ErrNil)
	is(t, "Arm", d.Arm(-1), api.ErrNil)
	is(t, "On", d.On(nil, 0), api.ErrNil)
	if d.Sectors() != 0 || d.Pending() != 0 || d.Steps() != 0 || d.Image() != nil || d.Dead() || d.Copy() != nil {
		t.Error("no disk")
	}
}
