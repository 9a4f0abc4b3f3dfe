package block

import (
	"bytes"
	"testing"

	"aumbry/api"
	"aumbry/crc"
	"aumbry/octet"
)

func sealed(b []byte) []byte { return octet.Put(b[:252], uint64(crc.Sum(b[:252])), 4) }

func TestSeal(t *testing.T) { // P4.1
	for _, n := range []int{0, 1, 100, 248} {
		for _, kind := range []uint8{1, 2, 255} {
			body := bytes.Repeat([]byte{7}, n)
			b, e := Seal(kind, body)
			want := append([]byte{kind, 0, byte(n), 0}, body...)
			want = sealed(append(want, make([]byte, 252-len(want))...))
			if e != api.OK || !bytes.Equal(b, want) {
				t.Errorf("kind %d, %d bytes: %x", kind, n, b)
			}
		}
	}
	for _, c := range []struct {
		kind uint8
		n    int
	}{{0, 0}, {1, 249}, {0, 249}, {1, 70000}} {
		if b, e := Seal(c.kind, make([]byte, c.n)); b != nil || e != api.ErrArg {
			t.Errorf("Seal of %d, %d bytes: %d", c.kind, c.n, e)
		}
	}
}

func TestOpen(t *testing.T) { // P4.2
	for _, n := range []int{0, 1, 248} {
		body := bytes.Repeat([]byte{5}, n)
		b, _ := Seal(9, body)
		kind, got, e := Open(b)
		if kind != 9 || !bytes.Equal(got, body) || e != api.OK {
			t.Errorf("of %d bytes: %d, %x, %d", n, kind, got, e)
		}
		if n > 0 {
			got[0] = 1
			if b[4] != 5 {
				t.Error("the body is not its own")
			}
		}
	}
	good, _ := Seal(1, []byte{1, 2, 3})
	turn := func(at int, x byte) []byte {
		b := bytes.Clone(good)
		b[at] = x
		return sealed(b)
	}
	for name, b := range map[string][]byte{
		"none": nil, "short": good[:255], "long": append(bytes.Clone(good), 0), "noughts": make([]byte, 256),
		"kind 0": turn(0, 0), "the second byte": turn(1, 1), "a byte behind the body": turn(7, 1), "a byte at the end": turn(251, 1),
		"a short length": turn(2, 2), "a length of 249": turn(2, 249), "a great length": turn(3, 1),
	} {
		if kind, body, e := Open(b); kind != 0 || body != nil || e != api.ErrForm {
			t.Errorf("%s: %d, %x, %d", name, kind, body, e)
		}
	}
}

func TestTurned(t *testing.T) { // what follows
	good, _ := Seal(3, []byte("some body"))
	for bit := 0; bit < 256*8; bit++ {
		for _, long := range []int{1, 2, 9, 32} {
			b := bytes.Clone(good)
			for _, i := range []int{bit, bit + long - 1} {
				if i < 256*8 {
					b[i/8] ^= 1 << (i % 8)
				}
			}
			if bytes.Equal(b, good) {
				continue
			}
			if _, _, e := Open(b); e != api.ErrForm {
				t.Fatalf("bits %d, %d", bit, long)
			}
		}
	}
}
