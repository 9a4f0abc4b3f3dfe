package vm

import (
	"reflect"
	"slices"
	"testing"

	"aumbry/api"
	"aumbry/gen"
	"aumbry/heap"
	"aumbry/infer"
	"aumbry/lower"
	"aumbry/samples"
	"aumbry/syntax"
	"aumbry/token"
)

func compiled(t *testing.T, src string) (api.Code, infer.Out) {
	t.Helper()
	l, _, _ := token.Scan([]byte(src))
	p, at, e := syntax.Parse(l)
	if e != api.OK {
		t.Fatalf("%s: %d at %d", src, e, at)
	}
	out, at, e := infer.Program(p)
	if e != api.OK {
		t.Fatalf("%s: %d at %d", src, e, at)
	}
	c, e := gen.Program(lower.Program(p, out.Infos, out.Roots))
	if e != api.OK {
		t.Fatal(e)
	}
	return c, out
}

func is(t *testing.T, what string, got, want api.Errno) {
	t.Helper()
	if got != want {
		t.Errorf("%s: %d, not %d", what, got, want)
	}
}

func in(op uint8, l ...int64) api.Instr {
	i := api.Instr{Op: op}
	for k, x := range l {
		*[]*int64{&i.A, &i.B, &i.C}[k] = x
	}
	return i
}

func prim(s string) api.Instr { return api.Instr{Op: api.OpPrim, Text: s} }

func num(n int64) api.Word { return api.Word{Kind: api.WordInt, Num: n} }

// machine of some instructions.
func machine(t *testing.T, limit int, l ...api.Instr) (*Vm, *heap.Heap) {
	t.Helper()
	return coded(t, limit, api.Code{Funs: [][]api.Instr{l}, Roots: []api.Stamped{{Name: "r", Stamp: "int"}}})
}

func coded(t *testing.T, limit int, c api.Code) (*Vm, *heap.Heap) {
	t.Helper()
	h, _ := heap.New(limit)
	v, e := New(c, h)
	if e != api.OK {
		t.Fatalf("New: %d", e)
	}
	return v, h
}

func stops(t *testing.T, v *Vm, fuel int, want Stop, left int) {
	t.Helper()
	if s, n := v.Run(fuel); s != want || n != left {
		t.Errorf("Run(%d): %v, %d; not %v, %d", fuel, s, n, want, left)
	}
}

func TestExamples(t *testing.T) { // P25.1, P25.2, P25.3
	v, _ := machine(t, 10, in(api.OpInt, 3), in(api.OpPop), in(api.OpHalt))
	stops(t, v, 2, Stop{Kind: StopFuel}, 0)
	stops(t, v, 5, Stop{Kind: StopDone}, 4)
	stops(t, v, 5, Stop{Kind: StopDone}, 5)
	stops(t, v, 0, Stop{Kind: StopDone}, 0)
	v, _ = machine(t, 10, in(api.OpRoot, 0, 3), in(api.OpInt, 3), in(api.OpBind, 0), in(api.OpHalt))
	is(t, "Kept", v.Kept(num(5), true), api.ErrState)
	stops(t, v, 9, Stop{Kind: StopRoot}, 8)
	stops(t, v, 9, Stop{Kind: StopRoot}, 9)
	is(t, "Kept", v.Kept(num(5), true), api.OK)
	is(t, "Kept", v.Kept(num(5), true), api.ErrState)
	stops(t, v, 9, Stop{Kind: StopDone}, 8)
	v, _ = machine(t, 10, in(api.OpRoot, 0, 3), in(api.OpInt, 3), in(api.OpBind, 0), in(api.OpHalt))
	v.Run(1)
	is(t, "Kept", v.Kept(num(5), false), api.OK)
	stops(t, v, 9, Stop{Kind: StopBind, Word: num(3)}, 7)
	stops(t, v, 0, Stop{Kind: StopFuel}, 0)
	stops(t, v, -5, Stop{Kind: StopFuel}, 0)
	stops(t, v, 1, Stop{Kind: StopDone}, 0)
	h, _ := heap.New(5)
	_, e := New(api.Code{}, h)
	is(t, "no code", e, api.ErrCode)
	_, e = New(api.Code{}, nil)
	is(t, "no heap", e, api.ErrNil)
	var none *Vm
	is(t, "no machine", none.Kept(num(0), true), api.ErrNil)
	if stops(t, none, 5, Stop{}, 0); none.Roots() != nil {
		t.Error("no machine")
	}
}

func TestStops(t *testing.T) { // P25.2
	v, _ := machine(t, 10, api.Instr{Op: api.OpStr, Text: "ab"}, prim("print"), prim("commit"), prim("abort"), in(api.OpHalt))
	stops(t, v, 100, Stop{Kind: StopPrint, Text: "ab"}, 98)
	stops(t, v, 98, Stop{Kind: StopCommit}, 97)
	stops(t, v, 97, Stop{Kind: StopAbort}, 96)
	stops(t, v, 96, Stop{Kind: StopAbort}, 96)
	v, _ = machine(t, 10, in(api.OpExn, 7, 0), in(api.OpRaise))
	stops(t, v, 9, Stop{Kind: StopRaised, A: 7}, 7)
	stops(t, v, 9, Stop{Kind: StopRaised, A: 7}, 9)
	if !slices.Equal(v.Roots(), []int{1}) {
		t.Error("what is raised is its own")
	}
	v, _ = machine(t, 2, api.Instr{Op: api.OpStr, Text: "a"}, in(api.OpCon, 0, 0), in(api.OpHalt))
	stops(t, v, 9, Stop{Kind: StopMemory}, 8)
	stops(t, v, 9, Stop{Kind: StopMemory}, 9)
	v, _ = machine(t, 2, in(api.OpInt, 1), in(api.OpInt, 0), prim("div"), in(api.OpHalt))
	stops(t, v, 9, Stop{Kind: StopRaised}, 6)
	v, _ = machine(t, 1, in(api.OpInt, 1), in(api.OpInt, 0), prim("<"), in(api.OpPop), in(api.OpJump, 0))
	stops(t, v, 5000, Stop{Kind: StopFuel}, 0)
}

// outcome is what became of a run.
type outcome struct {
	samples.Sample
	stop  uint8
	roots map[int]api.Word
	fuel  int
}

// run runs code with so much fuel at once, collecting between, if that is asked.
func run(t *testing.T, c api.Code, infos []api.Info, limit, each int, collect bool) outcome {
	t.Helper()
	v, h := coded(t, limit, c)
	o := outcome{roots: map[int]api.Word{}}
	for range 2000000 {
		if collect {
			h.Collect(v.Roots())
		}
		s, left := v.Run(each)
		o.fuel += each - left
		switch s.Kind {
		case StopFuel, StopCommit:
		case StopPrint:
			o.Lines = append(o.Lines, s.Text)
		case StopBind:
			o.roots[s.A] = s.Word
		case StopRoot:
			is(t, "Kept", v.Kept(api.Word{}, false), api.OK)
		case StopDone:
			o.stop, o.End = s.Kind, api.EndDone
			return o
		case StopAbort:
			o.stop, o.End = s.Kind, api.EndAbort
			return o
		case StopRaised:
			o.stop, o.End = s.Kind, api.EndRaised
			for _, i := range infos {
				if i.Of == "exn" && i.Place == s.A {
					o.Text = i.Name
				}
			}
			return o
		default:
			o.stop = s.Kind
			return o
		}
		if h.Used() > limit {
			t.Fatal("the heap is too great")
		}
	}
	t.Fatal("it does not end")
	return o
}

func TestSamples(t *testing.T) { // P25.2, P25.5
	for _, s := range samples.All() {
		c, out := compiled(t, s.Source)
		first := run(t, c, out.Infos, 1<<20, 1<<30, false)
		first.Source = s.Source
		if !reflect.DeepEqual(first.Sample, s) {
			t.Errorf("%s: %v, not %v", s.Source, first.Sample, s)
		}
		for _, way := range []struct {
			limit, each int
			collect     bool
		}{{1 << 20, 1, false}, {1 << 20, 7, true}, {3000, 3, false}, {200, 1 << 30, false}, {60, 5, true}, {20, 1000, false}, {5, 1, true}} {
			o := run(t, c, out.Infos, way.limit, way.each, way.collect)
			o.Source = s.Source
			if o.stop == StopMemory {
				if way.limit > 1<<19 || len(o.Lines) > len(s.Lines) || !slices.Equal(o.Lines, s.Lines[:len(o.Lines)]) {
					t.Errorf("%s: %v", s.Source, o)
				}
				continue
			}
			if !reflect.DeepEqual(o.Sample, s) || o.fuel != first.fuel {
				t.Errorf("%s: with %v: %v, %d; not %d", s.Source, way, o.Sample, o.fuel, first.fuel)
			}
		}
	}
}

func TestRoots(t *testing.T) { // P25.1
	c := api.Code{Funs: [][]api.Instr{
		{{Op: api.OpStr, Text: "a"}, {Op: api.OpStr, Text: "b"}, in(api.OpTuple, 2), in(api.OpInt, 9), in(api.OpCon, 1, 0), in(api.OpGroup, 1, 1, 2), in(api.OpCon, 2, 0), in(api.OpCall), in(api.OpHalt)},
		{in(api.OpInt, 1), in(api.OpPop), in(api.OpMate, 0), in(api.OpRet)},
	}}
	v, h := coded(t, 100, c)
	for i, want := range [][]int{{1}, {1, 2}, {3}, {3}, {3, 4}, {3, 5}, {3, 5, 6}, {3, 4, 6}, {3, 4, 6}, {3, 4, 6}, {3, 4, 6, 7}, {3, 7}} {
		v.Run(1)
		if got := v.Roots(); !slices.Equal(got, want) {
			t.Fatalf("behind %d: %v, not %v", i+1, got, want)
		}
		h.Collect(v.Roots())
	}
	stops(t, v, 5, Stop{Kind: StopDone}, 4)
}

// TestFaults runs over stubs, which are filled when they are looked at.
func TestFaults(t *testing.T) { // P25.2, P25.4
	str := func(s string) api.Object { return api.Object{Kind: api.ObjStr, Text: s} }
	words := func(kind uint8, tag int, l ...int64) api.Object {
		o := api.Object{Kind: kind, Tag: tag}
		for _, n := range l {
			o.Words = append(o.Words, num(n))
		}
		return o
	}
	put := func(n int64) []api.Instr { return []api.Instr{in(api.OpInt, n)} }
	root := in(api.OpRoot, 0, 2)
	for name, c := range map[string]struct {
		o    api.Object
		l    []api.Instr
		want string
	}{
		"print":  {str("a"), []api.Instr{prim("print")}, "a"},
		"size":   {str("abc"), []api.Instr{prim("size"), prim("itos"), prim("print")}, "3"},
		"same":   {str("x"), []api.Instr{{Op: api.OpStr, Text: "x"}, prim("same"), in(api.OpIf, 9), {Op: api.OpStr, Text: "yes"}, prim("print")}, "yes"},
		"^":      {str("x"), []api.Instr{in(api.OpLocal, 0), prim("^"), prim("print")}, "xx"},
		"!":      {words(api.ObjRef, 0, 7), []api.Instr{prim("!"), prim("itos"), prim("print")}, "7"},
		":=":     {words(api.ObjRef, 0, 7), append(append([]api.Instr{in(api.OpLocal, 0)}, put(8)...), prim(":="), in(api.OpPop), prim("!"), prim("itos"), prim("print")), "8"},
		"get":    {words(api.ObjArray, 0, 7, 6), append(put(1), prim("get"), prim("itos"), prim("print")), "6"},
		"put":    {words(api.ObjArray, 0, 7, 6), append(append([]api.Instr{in(api.OpLocal, 0)}, append(put(1), put(5)...)...), prim("put"), in(api.OpPop), in(api.OpInt, 1), prim("get"), prim("itos"), prim("print")), "5"},
		"len":    {words(api.ObjArray, 0, 7, 6), []api.Instr{prim("len"), prim("itos"), prim("print")}, "2"},
		"field":  {words(api.ObjTuple, 0, 7, 6), []api.Instr{in(api.OpField, 1), prim("itos"), prim("print")}, "6"},
		"pay":    {words(api.ObjCon, 3, 9), []api.Instr{in(api.OpPay), prim("itos"), prim("print")}, "9"},
		"is":     {words(api.ObjCon, 3, 9), []api.Instr{in(api.OpIs, 3), in(api.OpIf, 7), {Op: api.OpStr, Text: "is"}, prim("print")}, "is"},
		"not":    {words(api.ObjCon, 0), []api.Instr{prim("not"), in(api.OpIf, 7), {Op: api.OpStr, Text: "not"}, prim("print")}, "not"},
		"if":     {words(api.ObjCon, 1), []api.Instr{in(api.OpIf, 6), {Op: api.OpStr, Text: "if"}, prim("print")}, "if"},
		"stored": {str("a"), []api.Instr{prim("ref"), in(api.OpInt, 1), in(api.OpTuple, 2), in(api.OpCon, 1, 1), {Op: api.OpStr, Text: "kept"}, prim("print")}, "kept"},
	} {
		l := append([]api.Instr{root, in(api.OpInt, 0)}, c.l...)
		if name == "same" {
			l[4].A = 7
			l = append(l, in(api.OpInt, 0))
		}
		if l[len(l)-1].Op == api.OpPrim {
			at := int64(len(l))
			for i := range l {
				if l[i].Op == api.OpIf {
					l[i].A = at + 1
					l = append(l, in(api.OpJump, at+2), in(api.OpInt, 0))
				}
			}
		} else {
			l = l[:len(l)-1]
			at := int64(len(l))
			l[4].A = at + 1
			l = append(l, in(api.OpJump, at+2), in(api.OpInt, 0))
		}
		l = append(l, in(api.OpHalt))
		v, h := machine(t, 100, l...)
		k, _ := h.Alloc(api.Object{Kind: api.ObjStub, Tag: 5})
		v.Run(1)
		v.Kept(api.Word{Kind: api.WordOid, Num: int64(k)}, true)
		line, faults := "", 0
		for range 50 {
			s, left := v.Run(100)
			if s.Kind == StopPrint {
				line = s.Text
			}
			if s.Kind == StopFault {
				faults++
				stops(t, v, left, Stop{Kind: StopFault, A: k}, left)
				is(t, "Fill", h.Fill(s.A, c.o), api.OK)
			}
			if s.Kind == StopDone {
				break
			}
		}
		if want := 1; line != c.want || faults != want && name != "stored" || name == "stored" && faults != 0 {
			t.Errorf("%s: %q, %d faults", name, line, faults)
		}
	}
}

func TestWrongThings(t *testing.T) { // R1: code that may be run, but of things that do not fit
	for _, i := range []api.Instr{prim("print"), prim("size"), prim("not"), prim("len"), prim("!"), prim("itos"), prim("~"), in(api.OpField, 3), in(api.OpPay), in(api.OpIs, 1), in(api.OpRaise), in(api.OpIf, 3)} {
		for _, first := range []api.Instr{in(api.OpInt, 5), in(api.OpInt, -1), {Op: api.OpStr, Text: "x"}, in(api.OpCon, 3, 0)} {
			v, _ := machine(t, 50, first, i, in(api.OpJump, 3), in(api.OpHalt))
			for range 9 {
				v.Run(3)
			}
		}
	}
	for _, i := range []api.Instr{prim("same"), prim("array"), prim("get"), prim("+"), prim("div"), prim("<"), prim("^"), prim(":="), in(api.OpCall)} {
		for _, first := range []api.Instr{in(api.OpInt, 5), {Op: api.OpStr, Text: "x"}, in(api.OpCon, 3, 0)} {
			v, h := machine(t, 50, first, first, i, in(api.OpHalt))
			h.Alloc(api.Object{Kind: api.ObjFun, Tag: 9})
			for range 9 {
				v.Run(3)
			}
		}
	}
	v, _ := machine(t, 50, in(api.OpRoot, 0, 2), in(api.OpInt, 1), in(api.OpInt, 2), in(api.OpCall), in(api.OpHalt))
	v.Run(1)
	v.Kept(api.Word{Kind: 9, Num: 77}, true)
	v.Run(9)
}

func TestDeepCalls(t *testing.T) { // frames are not the heap's
	c, _ := compiled(t, "fun f n = if n = 0 then 0 else 1 + f (n - 1); do print (itos (f 200000)); fun g n = g n; do g 1;")
	v, _ := coded(t, 1000, c)
	for {
		s, _ := v.Run(5000000)
		if s.Kind == StopPrint && s.Text != "200000" {
			t.Error(s.Text)
		}
		if s.Kind == StopFuel {
			return
		}
	}
}
