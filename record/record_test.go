package record

import (
	"bytes"
	"math"
	"reflect"
	"slices"
	"strings"
	"testing"

	"aumbry/api"
)

func num(n int64) api.Word { return api.Word{Kind: api.WordInt, Num: n} }
func oid(n int64) api.Word { return api.Word{Kind: api.WordOid, Num: n} }

func words(n int) []api.Word { return slices.Repeat([]api.Word{num(7)}, n) }

func TestWrite(t *testing.T) { // P10.1
	for _, c := range []struct {
		o    api.Object
		want string
	}{
		{api.Object{Kind: api.ObjRef, Words: []api.Word{oid(3)}}, "\x03\x00\x00\x01\x00\x02\x03\x00\x00\x00\x00\x00\x00\x00"},
		{api.Object{Kind: api.ObjStr, Text: "ab"}, "\x05\x00\x00\x02\x00ab"},
		{api.Object{Kind: api.ObjArray}, "\x04\x00\x00\x00\x00"},
		{api.Object{Kind: api.ObjCon, Tag: 65535}, "\x02\xff\xff\x00\x00"},
		{api.Object{Kind: api.ObjCon, Tag: 258, Words: []api.Word{num(-2)}}, "\x02\x02\x01\x01\x00\x01\xfe\xff\xff\xff\xff\xff\xff\xff"},
		{api.Object{Kind: api.ObjTuple, Words: []api.Word{num(api.MaxInt), num(api.MinInt)}}, "\x01\x00\x00\x02\x00\x01\xff\xff\xff\xff\xff\xff\xff\x3f\x01\x00\x00\x00\x00\x00\x00\x00\xc0"},
		{api.Object{Kind: api.ObjStr}, "\x05\x00\x00\x00\x00"},
	} {
		b, e := Write(c.o)
		if e != api.OK || string(b) != c.want {
			t.Errorf("Write(%v): %x, %d", c.o, b, e)
		}
		o, e := Read([]byte(c.want))
		if e != api.OK || !reflect.DeepEqual(o, c.o) {
			t.Errorf("Read(%x): %v, %d", c.want, o, e)
		}
	}
}

func TestWriteWrong(t *testing.T) { // P10.1
	for _, o := range []api.Object{
		{}, {Kind: 6}, {Kind: 7}, {Kind: 8, Tag: 1}, {Kind: 255},
		{Kind: api.ObjTuple}, {Kind: api.ObjTuple, Words: words(1)}, {Kind: api.ObjRef}, {Kind: api.ObjRef, Words: words(2)},
		{Kind: api.ObjCon, Words: words(2)}, {Kind: api.ObjStr, Words: words(1)},
		{Kind: api.ObjArray, Text: "x"}, {Kind: api.ObjArray, Tag: 1}, {Kind: api.ObjStr, Tag: 1}, {Kind: api.ObjCon, Tag: -1}, {Kind: api.ObjCon, Tag: 65536},
		{Kind: api.ObjRef, Words: []api.Word{oid(0)}}, {Kind: api.ObjRef, Words: []api.Word{oid(api.MaxOids + 1)}}, {Kind: api.ObjRef, Words: []api.Word{oid(-1)}},
		{Kind: api.ObjRef, Words: []api.Word{num(api.MaxInt + 1)}}, {Kind: api.ObjRef, Words: []api.Word{num(api.MinInt - 1)}}, {Kind: api.ObjRef, Words: []api.Word{{Kind: 3}}}, {Kind: api.ObjRef, Words: []api.Word{{}}},
		{Kind: api.ObjArray, Words: append(words(1000), num(math.MaxInt64))},
		{Kind: api.ObjCon, Words: words(10000)},
	} {
		if b, e := Write(o); b != nil || e != api.ErrArg {
			t.Errorf("Write(%v): %d", o.Kind, e)
		}
	}
	for _, c := range []struct {
		o api.Object
		e api.Errno
	}{
		{api.Object{Kind: api.ObjStr, Text: strings.Repeat("x", 8187)}, api.OK},
		{api.Object{Kind: api.ObjStr, Text: strings.Repeat("x", 8188)}, api.ErrFull},
		{api.Object{Kind: api.ObjStr, Text: strings.Repeat("x", 70000)}, api.ErrFull},
		{api.Object{Kind: api.ObjArray, Words: words(909)}, api.OK},
		{api.Object{Kind: api.ObjArray, Words: words(910)}, api.ErrFull},
		{api.Object{Kind: api.ObjTuple, Words: words(9000)}, api.ErrFull},
	} {
		b, e := Write(c.o)
		if e != c.e || e != api.OK && b != nil {
			t.Errorf("Write: %d", e)
		}
		if e == api.OK {
			if o, e := Read(b); e != api.OK || !reflect.DeepEqual(o, c.o) {
				t.Error("a great one is not read")
			}
		}
	}
}

func TestReadWrong(t *testing.T) { // P10.2
	for _, s := range []string{
		"", "\x05\x00\x00\x00", "\x05\x00\x00\x01\x00", "\x05\x00\x00\x00\x00x", "\x05\x01\x00\x00\x00", "\x04\x01\x00\x00\x00", "\x00\x00\x00\x00\x00", "\x06\x00\x00\x00\x00", "\x08\x01\x00\x00\x00",
		"\x03\x00\x00\x00\x00", "\x01\x00\x00\x00\x00", "\x03\x00\x00\x01\x00\x02\x03\x00\x00\x00\x00\x00\x00", "\x03\x00\x00\x01\x00\x02\x00\x00\x00\x00\x00\x00\x00\x00",
		"\x03\x00\x00\x01\x00\x03\x03\x00\x00\x00\x00\x00\x00\x00", "\x03\x00\x00\x01\x00\x01\x00\x00\x00\x00\x00\x00\x00\x40", "\x03\x00\x00\x01\x00\x02\x01\x40\x00\x00\x00\x00\x00\x00",
		"\x05\x00\x00\xfc\x1f" + strings.Repeat("x", 8188),
	} {
		if o, e := Read([]byte(s)); e != api.ErrForm || !reflect.DeepEqual(o, api.Object{}) {
			t.Errorf("Read(%x): %d", s, e)
		}
	}
	x := uint32(3)
	for range 20000 { // what is read is written again, byte for byte
		b := make([]byte, 5+int(x>>28)*9)
		for i := range b {
			x = x*1664525 + 1013904223
			b[i] = byte(x>>24) & 3
			if i > 5 && (i-5)%9 > 2 {
				b[i] = 0
			}
		}
		b[0] = byte(x>>8)%6 + 0
		b[3] = byte((len(b) - 5) / 9)
		if o, e := Read(b); e == api.OK {
			if c, e := Write(o); e != api.OK || !bytes.Equal(b, c) {
				t.Fatalf("%x is not written again", b)
			}
		}
	}
}

func TestOids(t *testing.T) { // P10.3
	o := api.Object{Kind: 99, Words: []api.Word{oid(7), oid(5), oid(7), num(9), oid(-3), {Kind: 9, Num: 8}}}
	if got := Oids(o); !slices.Equal(got, []int{7, 5, -3}) {
		t.Error(got)
	}
	if Oids(api.Object{}) != nil {
		t.Error("of nothing")
	}
}
