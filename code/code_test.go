package code

import (
	"bytes"
	"reflect"
	"strconv"
	"strings"
	"testing"

	"aumbry/api"
)

func in(op uint8, l ...int64) api.Instr {
	i := api.Instr{Op: op}
	for k, x := range l {
		*[]*int64{&i.A, &i.B, &i.C}[k] = x
	}
	return i
}

func prim(s string) api.Instr { return api.Instr{Op: api.OpPrim, Text: s} }
func str(s string) api.Instr  { return api.Instr{Op: api.OpStr, Text: s} }

func code(funs ...[]api.Instr) api.Code { return api.Code{Funs: funs} }

var halt, ret, pop, call, end, raise, pay = in(api.OpHalt), in(api.OpRet), in(api.OpPop), in(api.OpCall), in(api.OpEnd), in(api.OpRaise), in(api.OpPay)

// num puts a number.
func num(n int64) api.Instr { return in(api.OpInt, n) }

type list = []api.Instr

func TestTakes(t *testing.T) { // P22.1
	for n, names := range map[int]string{1: "print itos size not ref len commit abort ~ !", 2: "same array get + - * div mod < <= > >= = <> ^ :=", 3: "put"} {
		for _, s := range strings.Fields(names) {
			if got, ok := Takes(s); got != n || !ok {
				t.Errorf("%s: %d, %v", s, got, ok)
			}
		}
	}
	for _, s := range []string{"", "Print", "printx", "fn", "=>"} {
		if n, ok := Takes(s); n != 0 || ok {
			t.Errorf("%q: %d", s, n)
		}
	}
}

func TestBytes(t *testing.T) { // P22.2
	c := api.Code{Funs: []list{{in(api.OpInt, -2, 1<<40, 3), str("ab")}, {}}, Roots: []api.Stamped{{Name: "r", Stamp: "int"}}}
	want := "\x02\x00\x00\x00\x02\x00\x00\x00" +
		"\x01\xfe\xff\xff\xff\xff\xff\xff\xff\x00\x00\x00\x00\x00\x01\x00\x00\x03\x00\x00\x00\x00\x00\x00\x00\x00\x00\x00\x00" +
		"\x02" + strings.Repeat("\x00", 24) + "\x02\x00\x00\x00ab" + "\x00\x00\x00\x00" +
		"\x01\x00\x00\x00\x01\x00\x00\x00r\x03\x00\x00\x00int"
	b := Write(c)
	if string(b) != want {
		t.Errorf("%x", b)
	}
	got, e := Read(b)
	if e != api.OK || len(got.Funs) != 2 || len(got.Funs[1]) != 0 || !reflect.DeepEqual(got.Funs[0], c.Funs[0]) || !reflect.DeepEqual(got.Roots, c.Roots) {
		t.Errorf("%v, %d", got, e)
	}
	for n := range len(b) {
		if got, e := Read(b[:n]); e != api.ErrForm || !reflect.DeepEqual(got, api.Code{}) {
			t.Errorf("%d bytes", n)
		}
	}
	if _, e := Read(append(bytes.Clone(b), 0)); e != api.ErrForm {
		t.Error("a byte more")
	}
	if _, e := Read([]byte("\xff\xff\xff\xff")); e != api.ErrForm {
		t.Error("many functions")
	}
	if _, e := Read([]byte("\x01\x00\x00\x00\xff\xff\xff\xff")); e != api.ErrForm {
		t.Error("many instructions")
	}
	if b := Write(api.Code{}); !bytes.Equal(b, make([]byte, 8)) {
		t.Error("nothing")
	}
	x := uint32(1)
	for range 3000 { // what is read is written again
		c := bytes.Clone(b)
		for range 2 {
			x = x*1664525 + 1013904223
			c[int(x>>8)%len(c)] = byte(x >> 28)
		}
		if r, e := Read(c); e == api.OK && !bytes.Equal(Write(r), c) {
			t.Fatalf("%x", c)
		}
	}
}

func TestExamples(t *testing.T) { // P22.3
	group := list{in(api.OpGroup, 1, 1, 0), pop, halt}
	for name, c := range map[string]struct {
		c  api.Code
		ok bool
	}{
		"an example":              {code(list{num(5), prim("itos"), prim("print"), halt}), true},
		"without OpInt":           {code(list{prim("itos"), prim("print"), halt}), false},
		"without OpHalt":          {code(list{num(5), prim("itos"), prim("print")}), false},
		"a function":              {code(group, list{in(api.OpLocal, 0), ret}), true},
		"OpRet alone":             {code(group, list{ret}), false},
		"the argument is gone":    {code(group, list{pop, num(1), num(2), ret}), false},
		"no function":             {code(), false},
		"an empty function":       {code(list{}), false},
		"OpHalt":                  {code(list{halt}), true},
		"OpRet in 0":              {code(list{num(1), num(1), ret}), false},
		"OpHalt in 1":             {code(group, list{halt}), false},
		"what is not come to":     {code(list{halt, pop, ret, call}), true},
		"made by none":            {code(list{halt}, list{in(api.OpLocal, 0), ret}), false},
		"made twice":              {code(list{halt, in(api.OpGroup, 1, 1, 0), in(api.OpGroup, 1, 1, 0)}, list{in(api.OpLocal, 0), ret}), false},
		"made where none comes":   {code(list{halt, in(api.OpGroup, 1, 1, 0)}, list{in(api.OpLocal, 0), ret}), true},
		"made by itself":          {code(list{halt}, list{in(api.OpGroup, 1, 1, 0), ret}), true},
		"caught":                  {code(list{num(1), num(2), in(api.OpGroup, 1, 2, 2), halt}, list{in(api.OpEnv, 1), ret}, list{in(api.OpMate, 1), ret}), true},
		"one more is caught":      {code(list{num(1), num(2), in(api.OpGroup, 1, 2, 2), halt}, list{in(api.OpEnv, 2), ret}, list{in(api.OpMate, 1), ret}), false},
		"one more is a mate":      {code(list{num(1), num(2), in(api.OpGroup, 1, 2, 2), halt}, list{in(api.OpEnv, 0), ret}, list{in(api.OpMate, 2), ret}), false},
		"caught too few":          {code(list{num(1), in(api.OpGroup, 1, 1, 2), halt}, list{in(api.OpLocal, 0), ret}), false},
		"OpEnv in 0":              {code(list{in(api.OpEnv, 0), halt}), false},
		"OpMate in 0":             {code(list{in(api.OpMate, 0), halt}), false},
		"OpLocal":                 {code(list{num(1), num(2), in(api.OpLocal, 1), halt}), true},
		"OpLocal above":           {code(list{num(1), num(2), in(api.OpLocal, 2), halt}), false},
		"a call":                  {code(list{in(api.OpGroup, 1, 1, 0), num(1), call, halt}, list{in(api.OpLocal, 0), ret}), true},
		"a call of nothing":       {code(list{num(1), call, halt}), false},
		"a loop":                  {code(list{in(api.OpJump, 0)}), true},
		"a loop that grows":       {code(list{num(1), in(api.OpJump, 0)}), false},
		"a branch":                {code(list{in(api.OpCon, 1, 0), in(api.OpIf, 4), num(1), in(api.OpJump, 5), num(2), halt}), true},
		"an uneven branch":        {code(list{in(api.OpCon, 1, 0), in(api.OpIf, 4), num(1), in(api.OpJump, 4), halt}), false},
		"a tuple":                 {code(list{num(1), num(2), in(api.OpTuple, 2), in(api.OpField, 1), in(api.OpIs, 0), pay, halt}), true},
		"a tuple of too few":      {code(list{num(1), in(api.OpTuple, 2), halt}), false},
		"OpSlide":                 {code(list{num(1), num(2), num(3), in(api.OpSlide, 2), pop, halt}), true},
		"OpSlide of too few":      {code(list{num(1), num(2), in(api.OpSlide, 2), halt}), false},
		"OpSlide of the argument": {code(group, list{num(1), in(api.OpSlide, 1), num(1), ret}), false},
		"cons":                    {code(list{num(1), in(api.OpCon, 3, 1), in(api.OpExn, 3, 1), in(api.OpExn, 0, 0), raise}), true},
		"OpCon of nothing":        {code(list{in(api.OpCon, 3, 1), halt}), false},
		"OpRaise of nothing":      {code(list{raise}), false},
		"OpRaise of the argument": {code(group, list{raise}), false},
		"OpPop of the argument":   {code(group, list{pop, num(1), num(1), ret}), false},
		"put":                     {code(list{num(1), num(2), num(3), prim("put"), halt}), true},
		"put of two":              {code(list{num(1), num(2), prim("put"), halt}), false},
	} {
		want := api.ErrCode
		if c.ok {
			want = api.OK
		}
		if e := Check(c.c); e != want {
			t.Errorf("%s: %d", name, e)
		}
	}
}

func TestTries(t *testing.T) { // P22.3
	for name, c := range map[string]struct {
		l  list
		ok bool
	}{
		"a try":                      {list{in(api.OpTry, 4), num(1), end, in(api.OpJump, 5), pay, halt}, true},
		"open at the end":            {list{in(api.OpTry, 3), num(1), halt, halt}, false},
		"OpEnd alone":                {list{num(1), end, halt}, false},
		"nothing at OpEnd":           {list{in(api.OpTry, 3), end, halt, halt}, false},
		"two at OpEnd":               {list{in(api.OpTry, 5), num(1), num(1), end, halt, halt}, false},
		"the floor":                  {list{num(7), in(api.OpTry, 5), pop, num(1), num(1), halt}, false},
		"down to the floor":          {list{num(7), in(api.OpTry, 6), num(1), pop, num(2), end, halt}, true},
		"one in the other":           {list{in(api.OpTry, 6), in(api.OpTry, 4), num(1), end, in(api.OpJump, 7), pay, halt, end, halt}, true},
		"one of two at the end":      {list{in(api.OpTry, 6), in(api.OpTry, 4), num(1), end, in(api.OpJump, 8), pay, halt, end, halt}, false},
		"one in the other, in order": {list{in(api.OpTry, 6), in(api.OpTry, 4), num(1), end, end, halt, halt}, true},
		"two ways":                   {list{in(api.OpCon, 0, 0), in(api.OpIf, 4), in(api.OpTry, 7), in(api.OpJump, 5), in(api.OpTry, 7), num(1), end, halt}, false},
		"raised on the floor":        {list{num(1), in(api.OpTry, 3), raise, halt}, false},
		"raised":                     {list{num(1), in(api.OpTry, 4), num(1), raise, halt}, true},
	} {
		want := api.ErrCode
		if c.ok {
			want = api.OK
		}
		if e := Check(code(c.l)); e != want {
			t.Errorf("%s: %d", name, e)
		}
	}
	inner := list{in(api.OpTry, 4), num(1), ret, halt, ret}
	if Check(code(list{in(api.OpGroup, 1, 1, 0), halt}, inner)) != api.ErrCode {
		t.Error("OpRet in a try")
	}
}

func TestRoots(t *testing.T) { // P22.3
	r := func(n int) (l []api.Stamped) {
		for i := range n {
			l = append(l, api.Stamped{Name: "r" + strconv.Itoa(i), Stamp: "int"})
		}
		return l
	}
	with := func(l []api.Stamped, i ...api.Instr) api.Code { return api.Code{Funs: []list{i}, Roots: l} }
	ok := list{in(api.OpRoot, 0, 3), num(1), in(api.OpBind, 0), halt}
	for i, c := range []struct {
		c    api.Code
		want api.Errno
	}{
		{with(r(1), ok...), 0}, {with(r(24), ok...), 0}, {with(r(25), ok...), api.ErrCode}, {with(nil, ok...), api.ErrCode}, {with(append(r(2), r(1)...), ok...), api.ErrCode},
		{with([]api.Stamped{{Name: "", Stamp: "t"}}, ok...), api.ErrCode}, {with([]api.Stamped{{Name: "n"}}, ok...), api.ErrCode},
		{with([]api.Stamped{{Name: strings.Repeat("n", 32), Stamp: strings.Repeat("t", 200)}}, ok...), 0}, {with([]api.Stamped{{Name: strings.Repeat("n", 33), Stamp: "t"}}, ok...), api.ErrCode}, {with([]api.Stamped{{Name: "n", Stamp: strings.Repeat("t", 201)}}, ok...), api.ErrCode},
		{with(r(1), in(api.OpRoot, 1, 1), halt), api.ErrCode}, {with(r(1), in(api.OpRoot, 0, 2), halt), api.ErrCode}, {with(r(1), in(api.OpRoot, 0, 1), halt), api.ErrCode}, {with(r(1), num(1), in(api.OpBind, 1), halt), api.ErrCode}, {with(r(1), in(api.OpBind, 0), halt), api.ErrCode},
	} {
		if e := Check(c.c); e != c.want {
			t.Errorf("%d: %d", i, e)
		}
	}
	fun := func(l ...api.Instr) api.Code {
		return api.Code{Funs: []list{{in(api.OpGroup, 1, 1, 0), halt}, l}, Roots: r(1)}
	}
	if Check(fun(num(1), in(api.OpBind, 0), ret)) != api.ErrCode || Check(fun(in(api.OpRoot, 0, 2), num(1), ret)) != api.ErrCode || Check(fun(num(1), ret)) != api.OK {
		t.Error("roots in another function")
	}
}

func TestOperands(t *testing.T) { // P22.3: of instructions that are not come to, too
	for i, c := range []struct {
		i  api.Instr
		ok bool
	}{
		{num(api.MaxInt), true}, {num(api.MinInt), true}, {num(api.MaxInt + 1), false}, {num(api.MinInt - 1), false}, {in(api.OpInt, 1, 1), false}, {in(api.OpInt, 1, 0, 1), false}, {api.Instr{Op: api.OpInt, Text: "x"}, false},
		{str(strings.Repeat("x", 16384)), true}, {str(strings.Repeat("x", 16385)), false}, {api.Instr{Op: api.OpStr, A: 1}, false}, {api.Instr{Op: api.OpStr, B: 1}, false},
		{in(api.OpLocal, 65535), true}, {in(api.OpLocal, 65536), false}, {in(api.OpLocal, -1), false}, {in(api.OpEnv, 65535), true}, {in(api.OpEnv, 65536), false}, {in(api.OpMate, 65535), true}, {in(api.OpMate, 65536), false}, {in(api.OpField, 65535), true}, {in(api.OpField, 65536), false}, {in(api.OpIs, 65535), true}, {in(api.OpIs, -1), false}, {in(api.OpSlide, 65535), true}, {in(api.OpSlide, 65536), false}, {in(api.OpSlide, 0, 1), false},
		{in(api.OpGroup, 0, 1, 0), false}, {in(api.OpGroup, 3, 1, 0), false}, {in(api.OpGroup, 1, 0, 0), false}, {in(api.OpGroup, 2, 2, 0), false}, {in(api.OpGroup, 1, 1, -1), false}, {in(api.OpGroup, 1, 1, 65536), false},
		{in(api.OpJump, 1), true}, {in(api.OpJump, 2), false}, {in(api.OpJump, -1), false}, {in(api.OpIf, 1), true}, {in(api.OpIf, 2), false}, {in(api.OpTry, 1), true}, {in(api.OpTry, 2), false}, {in(api.OpTry, 0, 1), false},
		{in(api.OpTuple, 2), true}, {in(api.OpTuple, 1), false}, {in(api.OpTuple, 65535), true}, {in(api.OpTuple, 65536), false}, {in(api.OpCon, 65535, 1), true}, {in(api.OpCon, 65536, 0), false}, {in(api.OpCon, 0, 2), false}, {in(api.OpExn, 0, -1), false}, {in(api.OpExn, 65535, 0), true}, {in(api.OpExn, 0, 0, 1), false},
		{prim("+"), true}, {prim("fn"), false}, {prim(""), false}, {api.Instr{Op: api.OpPrim, Text: "+", A: 1}, false}, {in(0), false}, {in(26), false}, {in(255), false},
		{call, true}, {in(api.OpCall, 1), false}, {in(api.OpRet, 0, 1), false}, {in(api.OpPay, 0, 0, 1), false}, {api.Instr{Op: api.OpRaise, Text: "x"}, false}, {in(api.OpEnd, -1), false}, {in(api.OpPop, 1), false}, {in(api.OpHalt, 1), false}, {pop, true},
	} {
		want := api.ErrCode
		if c.ok {
			want = api.OK
		}
		group := list{in(api.OpGroup, 1, 1, 0), in(api.OpGroup, 2, 1, 0)}
		id := list{in(api.OpLocal, 0), ret}
		if c.i.Op == api.OpGroup {
			want = api.ErrCode
		}
		l := code(list{halt, c.i}, id, append(id, group...))
		l.Funs[1] = append(id[:2:2], in(api.OpGroup, 1, 2, 0))
		l.Funs[2] = id
		if e := Check(l); e != want {
			t.Errorf("%d: %v: %d", i, c.i, e)
		}
	}
}

// TestSound goes through code that may be run by any way, and asks whether it ever takes what there is not.
func TestSound(t *testing.T) { // what follows
	x := uint32(5)
	next := func(n int) int { x = x*1664525 + 1013904223; return int(x>>8) % n }
	good := 0
	for range 60000 {
		n := 3 + next(9)
		l := make(list, n)
		for i := range l {
			switch next(11) {
			case 0, 1, 2:
				l[i] = num(1)
			case 3:
				l[i] = pop
			case 4:
				l[i] = in(api.OpIf, int64(next(n)))
			case 5:
				l[i] = in(api.OpJump, int64(next(n)))
			case 6, 7:
				l[i] = in(api.OpTry, int64(next(n)))
			case 8:
				l[i] = end
			case 9:
				l[i] = in(api.OpSlide, int64(next(3)))
			default:
				l[i] = []api.Instr{raise, halt, prim("+"), in(api.OpLocal, int64(next(3)))}[next(4)]
			}
		}
		l[n-1] = halt
		if Check(code(l)) != api.OK {
			continue
		}
		good++
		for range 5 {
			way(t, l, next)
		}
	}
	if good < 300 {
		t.Error("too few may be run:", good)
	}
}

// way goes through code by some way.
func way(t *testing.T, l list, next func(int) int) {
	t.Helper()
	type mark struct{ height, to int }
	var marks []mark
	at, height := 0, 0
	for range 200 {
		if at >= len(l) {
			t.Fatal("it goes to where nothing is", l)
		}
		i := l[at]
		at++
		floor := 0
		if len(marks) > 0 {
			floor = marks[len(marks)-1].height
		}
		takes, puts := 0, 0
		thrown := i.Op == api.OpRaise
		switch i.Op {
		case api.OpInt:
			puts = 1
		case api.OpPop, api.OpRaise:
			takes = 1
		case api.OpIf:
			takes = 1
			if next(2) == 0 {
				at = int(i.A)
			}
		case api.OpJump:
			at = int(i.A)
		case api.OpTry:
			marks = append(marks, mark{height, int(i.A)})
		case api.OpEnd:
			marks = marks[:len(marks)-1]
		case api.OpSlide:
			takes, puts = int(i.A)+1, 1
		case api.OpPrim:
			takes, puts = 2, 1
			thrown = next(3) == 0
		case api.OpLocal:
			puts = 1
			if int(i.A) >= height {
				t.Fatal("no such thing", l)
			}
		case api.OpHalt:
			if len(marks) > 0 {
				t.Fatal("a mark is left", l)
			}
			return
		}
		if height-takes < floor {
			t.Fatal("it takes what there is not", l)
		}
		height += puts - takes
		if thrown {
			if len(marks) == 0 {
				return
			}
			m := marks[len(marks)-1]
			marks = marks[:len(marks)-1]
			height, at = m.height+1, m.to
		}
	}
}
