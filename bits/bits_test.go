package bits

import (
	"math"
	"testing"

	"aumbry/api"
)

func made(t *testing.T, n int) *Bits {
	t.Helper()
	b, e := New(n)
	if e != api.OK {
		t.Fatal(e)
	}
	return b
}

func TestNew(t *testing.T) { // P6.1
	for _, n := range []int{-1, 65537, math.MaxInt, math.MinInt} {
		if b, e := New(n); b != nil || e != api.ErrArg {
			t.Errorf("New(%d): %d", n, e)
		}
	}
	for _, n := range []int{0, 1, 64, 65, 65536} {
		if b := made(t, n); b.Size() != n || b.Count() != 0 {
			t.Errorf("New(%d)", n)
		}
	}
}

func low(t *testing.T, b *Bits, want int, ok bool) {
	t.Helper()
	if got, is := b.Low(); got != want || is != ok {
		t.Errorf("Low: %d, %v", got, is)
	}
}

func TestExample(t *testing.T) { // P6.2, P6.3
	b := made(t, 3)
	if !b.Set(0) || !b.Set(1) || b.Set(1) || b.Set(3) || b.Set(-1) || b.Set(math.MaxInt) || b.Set(math.MinInt) {
		t.Error("Set")
	}
	low(t, b, 2, true)
	b.Set(2)
	low(t, b, 0, false)
	if !b.Clear(0) || b.Clear(0) || b.Clear(3) || b.Clear(-1) {
		t.Error("Clear")
	}
	low(t, b, 0, true)
	if b.Count() != 2 || b.Has(0) || !b.Has(1) || b.Has(3) || b.Has(-1) {
		t.Error("Count, Has")
	}
	low(t, made(t, 0), 0, false)
}

func TestAgainstMap(t *testing.T) { // P6.2, P6.3
	for _, n := range []int{1, 63, 64, 65, 128, 200} {
		b, want := made(t, n), map[int]bool{}
		x := uint32(n)
		for i := 0; i < 2000; i++ {
			x = x*1664525 + 1013904223
			k := int(x>>8) % n
			if x>>30 == 0 {
				if b.Clear(k) != want[k] {
					t.Fatal("Clear")
				}
				delete(want, k)
			} else {
				if b.Set(k) == want[k] {
					t.Fatal("Set")
				}
				want[k] = true
			}
			least := 0
			for want[least] {
				least++
			}
			if got, ok := b.Low(); ok != (least < n) || ok && got != least || !ok && got != 0 {
				t.Fatalf("Low of %d: %d, %v", n, got, ok)
			}
			if b.Count() != len(want) || b.Has(k) != want[k] {
				t.Fatal("Count, Has")
			}
		}
	}
}

func TestCopy(t *testing.T) { // P6.4
	b := made(t, 70)
	b.Set(69)
	c := b.Copy()
	if c.Size() != 70 || !c.Has(69) || c.Count() != 1 {
		t.Error("Copy")
	}
	c.Set(1)
	b.Clear(69)
	if b.Has(1) || !c.Has(69) {
		t.Error("they are one")
	}
	var none *Bits
	if none.Size() != 0 || none.Has(0) || none.Set(0) || none.Clear(0) || none.Count() != 0 || none.Copy() != nil {
		t.Error("no set")
	}
	low(t, none, 0, false)
}
