package pages

import (
	"bytes"
	"math"
	"slices"
	"testing"
)

func TestSetGetClear(t *testing.T) { // P7.1
	m := New()
	for _, c := range []struct{ page, sector int }{{-1, 1}, {1024, 1}, {math.MaxInt, 1}, {0, 0}, {0, -1}, {0, 65536}, {0, math.MinInt}} {
		if m.Set(c.page, c.sector) {
			t.Errorf("Set(%d, %d)", c.page, c.sector)
		}
	}
	if len(m.Pages()) != 0 {
		t.Error("a refused Set is done")
	}
	if !m.Set(1023, 65535) || !m.Set(0, 1) || !m.Set(0, 2) {
		t.Error("Set")
	}
	if s, ok := m.Get(1023); s != 65535 || !ok {
		t.Error("Get")
	}
	if s, ok := m.Get(0); s != 2 || !ok {
		t.Error("Get")
	}
	for _, p := range []int{1, -1, 1024, 1100, math.MaxInt} {
		if s, ok := m.Get(p); s != 0 || ok {
			t.Errorf("Get(%d)", p)
		}
		if m.Clear(p) {
			t.Errorf("Clear(%d)", p)
		}
	}
	if !m.Clear(0) || m.Clear(0) {
		t.Error("Clear")
	}
}

func example() *Map {
	m := New()
	m.Set(130, 7)
	m.Set(0, 5)
	m.Set(2, 256)
	return m
}

func TestParts(t *testing.T) { // P7.2
	m := example()
	if !slices.Equal(m.Pages(), []int{0, 2, 130}) || !slices.Equal(m.Sectors(), []int{5, 256, 7}) {
		t.Error("Pages, Sectors")
	}
	for i, want := range map[int]string{0: "\x05\x00\x00\x00\x00\x01", 1: "\x00\x00\x00\x00\x00\x00\x00\x00\x00\x00\x00\x00\x07\x00", 2: "", 9: "", -1: ""} {
		if got := m.Part(i); string(got) != want {
			t.Errorf("Part(%d): %x", i, got)
		}
	}
}

func TestLay(t *testing.T) { // P7.2
	m := example()
	beyond := append(make([]byte, 64), 1, 0)
	last := append(make([]byte, 62), 1, 0)
	for _, c := range []struct {
		i  int
		b  []byte
		ok bool
	}{
		{0, []byte{5}, false}, {8, beyond, false}, {8, last, true}, {-1, nil, false}, {9, nil, false},
		{0, make([]byte, 250), false}, {0, append(make([]byte, 248), 1, 1), false}, {0, []byte{1, 0, 0, 0}, false}, {0, []byte{0, 0}, false},
		{2, append(make([]byte, 246), 1, 0), true},
	} {
		if m.Lay(c.i, c.b) != c.ok {
			t.Errorf("Lay(%d, %x)", c.i, c.b)
		}
	}
	if !slices.Equal(m.Pages(), []int{0, 2, 130, 371, 1023}) {
		t.Error("Pages:", m.Pages())
	}
	if !m.Lay(0, []byte{0, 0, 9, 0}) || !m.Lay(1, nil) || !slices.Equal(m.Pages(), []int{1, 371, 1023}) {
		t.Error("behind its end a part has nothing")
	}
}

func TestTurned(t *testing.T) { // P7.3
	m := example()
	if !slices.Equal(m.Turned(New()), []int{0, 1}) || !slices.Equal(m.Turned(nil), []int{0, 1}) || len(m.Turned(m)) != 0 {
		t.Error("Turned")
	}
	c := m.Copy()
	if len(m.Turned(c)) != 0 {
		t.Error("Copy")
	}
	c.Set(1000, 3)
	c.Clear(130)
	if !slices.Equal(m.Turned(c), []int{1, 8}) || !slices.Equal(m.Pages(), []int{0, 2, 130}) {
		t.Error("they are one")
	}
	var none *Map
	if none.Set(0, 1) || none.Clear(0) || none.Lay(0, nil) || none.Pages() != nil || none.Sectors() != nil || none.Part(0) != nil || none.Copy() != nil {
		t.Error("no map")
	}
	if _, ok := none.Get(0); ok || !slices.Equal(none.Turned(m), []int{0, 1}) || none.Turned(nil) != nil {
		t.Error("no map")
	}
}

func TestWhole(t *testing.T) { // P7.4
	m := New()
	x := uint32(1)
	for range 300 {
		x = x*1664525 + 1013904223
		m.Set(int(x>>8)%1024, int(x>>16)%65535+1)
	}
	o := New()
	for i := range Parts {
		if !o.Lay(i, m.Part(i)) || !bytes.Equal(o.Part(i), m.Part(i)) {
			t.Fatalf("part %d", i)
		}
	}
	if len(o.Turned(m)) != 0 || !slices.Equal(o.Pages(), m.Pages()) || !slices.Equal(o.Sectors(), m.Sectors()) {
		t.Error("they are not the same")
	}
}
