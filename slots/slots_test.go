package slots

import (
	"bytes"
	"math"
	"slices"
	"testing"
)

func TestRight(t *testing.T) { // P9.1
	if !bytes.Equal(Empty(), []byte{0}) {
		t.Error("Empty")
	}
	full := append([]byte{1, 246}, make([]byte, 246)...)
	for s, want := range map[string]bool{
		"\x00": true, "\x01\x01a": true, "\x02\x00\x01a": true, "\x02\x01\x01ab": true, string(full): true,
		"": false, "\x02\x01\x00a": false, "\x01\x02a": false, "\x01\x01ab": false, "\x00a": false, "\x01": false, "\x01\x00": false,
		"\x05\x01": false, string(append([]byte{1, 247}, make([]byte, 247)...)): false,
	} {
		if Right([]byte(s)) != want {
			t.Errorf("Right(%x)", s)
		}
	}
}

func TestExamples(t *testing.T) { // P9.2, P9.3, P9.4
	p, slot, ok := Put(Empty(), []byte{0xaa, 0xbb})
	if !bytes.Equal(p, []byte{1, 2, 0xaa, 0xbb}) || slot != 0 || !ok {
		t.Errorf("Put: %x", p)
	}
	p, slot, ok = Put(p, []byte{0xcc})
	if !bytes.Equal(p, []byte{2, 2, 1, 0xaa, 0xbb, 0xcc}) || slot != 1 || !ok {
		t.Errorf("Put: %x", p)
	}
	if !slices.Equal(Slots(p), []int{0, 1}) {
		t.Error("Slots")
	}
	q, ok := Drop(p, 0)
	if !bytes.Equal(q, []byte{2, 0, 1, 0xcc}) || !ok || !slices.Equal(Slots(q), []int{1}) {
		t.Errorf("Drop: %x", q)
	}
	if r, ok := Get(q, 1); !ok || !bytes.Equal(r, []byte{0xcc}) {
		t.Error("Get")
	}
	if r, slot, ok := Put(q, []byte{0xdd}); !bytes.Equal(r, []byte{2, 1, 1, 0xdd, 0xcc}) || slot != 0 || !ok {
		t.Errorf("Put: %x", r)
	}
	q, ok = Drop(q, 1)
	if !bytes.Equal(q, []byte{0}) || !ok {
		t.Errorf("Drop: %x", q)
	}
}

func TestWrong(t *testing.T) { // P9.2, P9.3, P9.4
	bad, good := []byte{1, 2, 3}, []byte{2, 0, 1, 9}
	if Slots(bad) != nil || Room(bad) != -1 || Slots(nil) != nil || Room(nil) != -1 {
		t.Error("no page")
	}
	for _, slot := range []int{0, 1, -1, math.MaxInt} {
		if b, ok := Get(bad, slot); b != nil || ok {
			t.Error("Get of no page")
		}
		if b, ok := Drop(bad, slot); b != nil || ok {
			t.Error("Drop of no page")
		}
	}
	for _, slot := range []int{0, 2, -1, math.MaxInt, math.MinInt} {
		if b, ok := Get(good, slot); b != nil || ok {
			t.Errorf("Get of %d", slot)
		}
		if b, ok := Drop(good, slot); b != nil || ok {
			t.Errorf("Drop of %d", slot)
		}
	}
	for _, c := range [][2][]byte{{bad, {1}}, {nil, {1}}, {good, nil}, {good, make([]byte, 245)}, {Empty(), make([]byte, 247)}, {Empty(), make([]byte, 1000)}} {
		if q, slot, ok := Put(c[0], c[1]); q != nil || slot != 0 || ok {
			t.Errorf("Put(%x, %d bytes)", c[0], len(c[1]))
		}
	}
}

func TestRoom(t *testing.T) { // P9.3
	full, _, ok := Put(Empty(), make([]byte, 246))
	if Room(Empty()) != 246 || !ok || len(full) != 248 || Room(full) != -1 {
		t.Error("Room")
	}
	near, _, _ := Put(Empty(), make([]byte, 245))
	if Room(near) != -1 {
		t.Error("there is no room for a slot")
	}
	p := Empty()
	x := uint32(5)
	for {
		x = x*1664525 + 1013904223
		n := 1 + int(x>>24)%20
		room := Room(p)
		q, _, ok := Put(p, make([]byte, n))
		if ok != (n <= room) {
			t.Fatalf("%d bytes, room for %d", n, room)
		}
		if room == -1 {
			break
		}
		if q2, _, ok := Put(p, make([]byte, room)); !ok || !Right(q2) {
			t.Fatal("Room is too great")
		}
		if _, _, ok := Put(p, make([]byte, room+1)); ok {
			t.Fatal("Room is too small")
		}
		if ok {
			p = q
		}
		if x>>20&3 == 0 {
			if q, ok := Drop(p, int(x>>8)%8); ok {
				p = q
			}
		}
	}
}

func TestAgainstMap(t *testing.T) { // what follows
	p, want := Empty(), map[int]string{}
	x := uint32(9)
	for range 3000 {
		x = x*1664525 + 1013904223
		before := bytes.Clone(p)
		old := p
		rec := bytes.Repeat([]byte{byte(x >> 16)}, int(x>>27)+1)
		if x>>8&1 == 0 {
			if q, slot, ok := Put(p, rec); ok {
				least := 0
				for want[least] != "" {
					least++
				}
				if slot != least {
					t.Fatal("not the lowest")
				}
				want[slot], p = string(rec), q
			}
		} else if q, ok := Drop(p, int(x>>9)%12); ok {
			delete(want, int(x>>9)%12)
			p = q
		}
		if !bytes.Equal(old, before) || !Right(p) || len(Slots(p)) != len(want) {
			t.Fatal("a page")
		}
		for slot, s := range want {
			if got, ok := Get(p, slot); !ok || string(got) != s {
				t.Fatal("a record")
			}
		}
	}
}
