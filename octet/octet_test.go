package octet

import (
	"bytes"
	"math"
	"testing"

	"aumbry/api"
)

func TestGet(t *testing.T) { // P1.1
	b := []byte{9, 3, 2, 0, 0, 0, 0, 0, 0x80}
	for _, c := range []struct {
		at, size int
		x        uint64
		e        api.Errno
	}{
		{1, 2, 515, api.OK}, {0, 2, 777, api.OK}, {0, 1, 9, api.OK}, {0, 4, 9 + 3<<8 + 2<<16, api.OK},
		{1, 8, 1<<63 + 515, api.OK}, {8, 1, 128, api.OK},
		{2, 8, 0, api.ErrArg}, {8, 2, 0, api.ErrArg}, {9, 1, 0, api.ErrArg}, {-1, 1, 0, api.ErrArg},
		{0, 3, 0, api.ErrArg}, {0, 0, 0, api.ErrArg}, {0, -1, 0, api.ErrArg}, {0, 16, 0, api.ErrArg},
		{math.MaxInt, 8, 0, api.ErrArg}, {math.MinInt, 8, 0, api.ErrArg}, {1, math.MaxInt, 0, api.ErrArg},
	} {
		if x, e := Get(b, c.at, c.size); x != c.x || e != c.e {
			t.Errorf("Get at %d of %d: %d, %d", c.at, c.size, x, e)
		}
	}
	if _, e := Get(nil, 0, 1); e != api.ErrArg {
		t.Error("Get of nothing")
	}
}

func TestPut(t *testing.T) { // P1.2
	for size, want := range map[int][]byte{
		1: {9, 3}, 2: {9, 3, 2}, 4: {9, 3, 2, 0, 0}, 8: {9, 3, 2, 0, 0, 0, 0, 0, 0}, 3: {9}, 0: {9}, -8: {9}, 16: {9},
	} {
		b := make([]byte, 1, 64)
		b[0] = 9
		got := Put(b, 515, size)
		if !bytes.Equal(got, want) {
			t.Errorf("size %d: %x", size, got)
		}
		got[0] = 1
		if b[0] != 9 || !bytes.Equal(b[:64][1:], make([]byte, 63)) {
			t.Errorf("size %d: what was handed in was turned", size)
		}
	}
	if got := Put(nil, math.MaxUint64, 4); !bytes.Equal(got, []byte{255, 255, 255, 255}) {
		t.Errorf("%x", got)
	}
}

func TestCut(t *testing.T) { // P1.3
	b := []byte{9, 3, 2}
	for _, c := range []struct {
		at, n int
		want  string
		ok    bool
	}{
		{1, 2, "\x03\x02", true}, {0, 3, "\x09\x03\x02", true}, {3, 0, "", true}, {0, 0, "", true},
		{2, 2, "", false}, {1, -1, "", false}, {-1, 1, "", false}, {4, 0, "", false}, {math.MaxInt, math.MaxInt, "", false},
	} {
		p, ok := Cut(b, c.at, c.n)
		if string(p) != c.want || ok != c.ok {
			t.Errorf("%d at %d: %x, %v", c.n, c.at, p, ok)
		}
	}
	p, _ := Cut(b, 0, 3)
	p[0] = 1
	if b[0] != 9 {
		t.Error("a part is no memory of its own")
	}
}

func TestFill(t *testing.T) { // P1.4
	for _, c := range []struct {
		n    int
		want string
		ok   bool
	}{{3, "\x09\x00\x00", true}, {1, "\x09", true}, {0, "", false}, {-1, "", false}, {1<<20 + 1, "", false}, {math.MaxInt, "", false}} {
		if f, ok := Fill([]byte{9}, c.n); string(f) != c.want || ok != c.ok {
			t.Errorf("to %d: %x, %v", c.n, f, ok)
		}
	}
	if f, ok := Fill(nil, 1<<20); len(f) != 1<<20 || !ok {
		t.Error("the greatest length is refused")
	}
	b := make([]byte, 1, 8)
	b[:2][1] = 7
	f, _ := Fill(b, 4)
	f[0] = 5
	if b[0] != 0 || b[:2][1] != 7 || f[1] != 0 {
		t.Error("what is handed in is shared")
	}
}

func TestFields(t *testing.T) { // what follows: fields one behind the other
	b := []byte{7}
	at := 1
	for _, s := range []int{1, 2, 4, 8} {
		b = Put(b, 0x1122334455667788, s)
		x, e := Get(b, at, s)
		if want := uint64(0x1122334455667788) & (math.MaxUint64 >> (64 - 8*s)); e != api.OK || x != want {
			t.Errorf("size %d: %x", s, x)
		}
		at += s
	}
}
