package crc

import "testing"

// divide reckons the sum bit by bit, as the chapter's words have it.
func divide(sum uint32, b []byte) uint32 {
	var bits []uint32
	for _, c := range b {
		for i := 0; i < 8; i++ {
			bits = append(bits, uint32(c>>i)&1)
		}
	}
	bits = append(bits, make([]uint32, 32)...)
	for i := 0; i < 32; i++ {
		bits[i] ^= ^sum >> i & 1
	}
	div := make([]uint32, 33)
	for _, p := range []int{32, 26, 23, 22, 16, 12, 11, 10, 8, 7, 5, 4, 2, 1, 0} {
		div[32-p] = 1
	}
	for i := 0; i+32 < len(bits); i++ {
		if bits[i] == 1 {
			for j, d := range div {
				bits[i+j] ^= d
			}
		}
	}
	r := uint32(0)
	for i, x := range bits[len(bits)-32:] {
		r |= (x ^ 1) << i
	}
	return r
}

func text(n int, seed uint32) []byte {
	b := make([]byte, n)
	for i := range b {
		seed = seed*1664525 + 1013904223
		b[i] = byte(seed >> 24)
	}
	return b
}

func TestExamples(t *testing.T) { // P2.1
	if Sum(nil) != 0 || Sum([]byte("123456789")) != 0xcbf43926 {
		t.Error("sums")
	}
	if Extend(Sum([]byte("1234")), []byte("56789")) != 0xcbf43926 {
		t.Error("a sum does not go on")
	}
	if Sum([]byte("123456789\x26\x39\xf4\xcb")) != 0x2144df1c {
		t.Error("a sealed text")
	}
	if Extend(77, nil) != 77 {
		t.Error("nothing is behind")
	}
}

func TestDivision(t *testing.T) { // P2.1
	for n := 0; n < 40; n++ {
		b := text(n, uint32(n))
		for _, sum := range []uint32{0, 1, 0xffffffff, 0xdeadbeef} {
			if got, want := Extend(sum, b), divide(sum, b); got != want {
				t.Fatalf("%d bytes behind %x: %x, not %x", n, sum, got, want)
			}
		}
		if Sum(b) != Extend(0, b) {
			t.Fatal("Sum")
		}
	}
	for c := 0; c < 256; c++ {
		if Sum([]byte{byte(c)}) != divide(0, []byte{byte(c)}) {
			t.Fatalf("byte %d", c)
		}
	}
}

func TestBursts(t *testing.T) { // what follows
	b := text(60, 3)
	s := Sum(b)
	for at := 0; at < 56; at++ {
		for _, m := range []uint32{1, 0x80000001, 0xffffffff, 0x1234567} {
			c := append([]byte(nil), b...)
			for i := 0; i < 4; i++ {
				c[at+i] ^= byte(m >> (8 * i))
			}
			if Sum(c) == s {
				t.Fatalf("turned at %d by %x", at, m)
			}
		}
	}
	for n := 1; n < 50; n++ {
		if Sum(make([]byte, n)) == Sum(make([]byte, n-1)) {
			t.Fatal("noughts")
		}
	}
}
