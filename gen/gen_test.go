package gen_test

import (
	"reflect"
	"slices"
	"strconv"
	"strings"
	"testing"

	"aumbry/api"
	"aumbry/code"
	"aumbry/gen"
	"aumbry/infer"
	"aumbry/lower"
	"aumbry/samples"
	"aumbry/syntax"
	"aumbry/token"
)

// made is the code of a source.
func made(t *testing.T, src string) (api.Code, infer.Out) {
	t.Helper()
	l, _, _ := token.Scan([]byte(src))
	p, at, e := syntax.Parse(l)
	if e != api.OK {
		t.Fatalf("%.300s: %d at %d", src, e, at)
	}
	out, at, e := infer.Program(p)
	if e != api.OK {
		t.Fatalf("%.300s: %d at %d", src, e, at)
	}
	c, e := gen.Program(lower.Program(p, out.Infos, out.Roots))
	if e != api.OK {
		t.Fatalf("%.300s: gen %d", src, e)
	}
	if e := code.Check(c); e != api.OK {
		t.Fatalf("%.300s: it may not be run: %v", src, c)
	}
	if !slices.Equal(c.Roots, out.Roots) {
		t.Errorf("%.300s: roots %v", src, c.Roots)
	}
	return c, out
}

// object is a thing that is no number and no string.
type object struct {
	kind  uint8
	tag   int64
	words []any
	group []*object // a function's mates
}

// running is a frame of a run.
type running struct {
	fun *object
	at  int
	row []any
}

// mark for what is raised.
type mark struct{ frame, height, to int }

// machine runs code, as chapter 23 says.
type machine struct {
	code   api.Code
	frames []running
	marks  []mark
	lines  []string
	kept   map[string]any
	roots  map[string]any
	steps  int
	raised *object
	ended  bool
	end    uint8
}

func (m *machine) top() *running { return &m.frames[len(m.frames)-1] }

func (m *machine) push(x any) { f := m.top(); f.row = append(f.row, x) }

func (m *machine) pop(n int64) []any {
	f := m.top()
	l := slices.Clone(f.row[len(f.row)-int(n):])
	f.row = f.row[:len(f.row)-int(n)]
	return l
}

func (m *machine) throw(x *object) {
	if len(m.marks) == 0 {
		m.ended, m.end, m.raised = true, api.EndRaised, x
		return
	}
	k := m.marks[len(m.marks)-1]
	m.marks, m.frames = m.marks[:len(m.marks)-1], m.frames[:k.frame+1]
	f := m.top()
	f.row, f.at = append(f.row[:k.height], x), k.to
}

func (m *machine) step() {
	f := m.top()
	i := m.code.Funs[f.fun.tag][f.at]
	f.at++
	m.steps++
	switch i.Op {
	case api.OpInt:
		m.push(i.A)
	case api.OpStr:
		m.push(i.Text)
	case api.OpLocal:
		m.push(f.row[i.A])
	case api.OpEnv:
		m.push(f.fun.words[i.A])
	case api.OpMate:
		m.push(f.fun.group[i.A])
	case api.OpGroup:
		caught := m.pop(i.C)
		var l []*object
		for n := range i.B {
			l = append(l, &object{kind: api.ObjFun, tag: i.A + n, words: caught})
		}
		for _, g := range l {
			g.group = l
			m.push(g)
		}
	case api.OpCall:
		l := m.pop(2)
		m.frames = append(m.frames, running{fun: l[0].(*object), row: l[1:]})
	case api.OpRet:
		x := m.pop(1)
		m.frames = m.frames[:len(m.frames)-1]
		m.push(x[0])
	case api.OpJump:
		f.at = int(i.A)
	case api.OpIf:
		if m.pop(1)[0].(*object).tag == 0 {
			f.at = int(i.A)
		}
	case api.OpTuple:
		m.push(&object{kind: api.ObjTuple, words: m.pop(i.A)})
	case api.OpField:
		m.push(m.pop(1)[0].(*object).words[i.A])
	case api.OpIs:
		m.push(truth(m.pop(1)[0].(*object).tag == i.A))
	case api.OpPay:
		m.push(m.pop(1)[0].(*object).words[0])
	case api.OpCon:
		m.push(&object{kind: api.ObjCon, tag: i.A, words: m.pop(i.B)})
	case api.OpExn:
		m.push(&object{kind: api.ObjExn, tag: i.A, words: m.pop(i.B)})
	case api.OpPrim:
		n, _ := code.Takes(i.Text)
		if x, e := m.prim(i.Text, m.pop(int64(n))); e != nil {
			m.throw(e)
		} else {
			m.push(x)
		}
	case api.OpRaise:
		m.throw(m.pop(1)[0].(*object))
	case api.OpTry:
		m.marks = append(m.marks, mark{len(m.frames) - 1, len(f.row), int(i.A)})
	case api.OpEnd:
		m.marks = m.marks[:len(m.marks)-1]
	case api.OpSlide:
		l := m.pop(i.A + 1)
		m.push(l[i.A])
	case api.OpPop:
		m.pop(1)
	case api.OpRoot:
		if x, ok := m.kept[m.code.Roots[i.A].Name]; ok {
			m.push(x)
			f.at = int(i.B)
			m.roots[m.code.Roots[i.A].Name] = x
		}
	case api.OpBind:
		m.roots[m.code.Roots[i.A].Name] = f.row[len(f.row)-1]
	case api.OpHalt:
		m.ended, m.end = true, api.EndDone
	}
}

func truth(b bool) *object {
	if b {
		return &object{kind: api.ObjCon, tag: 1}
	}
	return &object{kind: api.ObjCon}
}

func (m *machine) prim(name string, l []any) (any, *object) {
	num := func(i int) int64 { return l[i].(int64) }
	exn := func(n int64) *object { return &object{kind: api.ObjExn, tag: n} }
	wrap := func(x int64) (any, *object) { return x << 1 >> 1, nil }
	switch name {
	case "+":
		return wrap(num(0) + num(1))
	case "-":
		return wrap(num(0) - num(1))
	case "*":
		return wrap(num(0) * num(1))
	case "div", "mod":
		if num(1) == 0 {
			return nil, exn(0)
		}
		if name == "div" {
			return wrap(num(0) / num(1))
		}
		return wrap(num(0) % num(1))
	case "~":
		return wrap(-num(0))
	case "<", ">", "<=", ">=", "=", "<>":
		a, b := num(0), num(1)
		return truth(a < b && name[0] == '<' || a > b && (name[0] == '>' || name == "<>") || a == b && name[len(name)-1] == '='), nil
	case "^":
		return l[0].(string) + l[1].(string), nil
	case "not":
		return truth(l[0].(*object).tag == 0), nil
	case "print":
		m.lines = append(m.lines, l[0].(string))
	case "itos":
		return strings.Replace(strconv.FormatInt(num(0), 10), "-", "~", 1), nil
	case "size":
		return int64(len(l[0].(string))), nil
	case "same":
		return truth(l[0] == l[1]), nil
	case "ref":
		return &object{kind: api.ObjRef, words: l}, nil
	case "!":
		return l[0].(*object).words[0], nil
	case ":=":
		l[0].(*object).words[0] = l[1]
	case "array":
		if num(0) < 0 || num(0) > 1000 {
			return nil, exn(2)
		}
		return &object{kind: api.ObjArray, words: slices.Repeat(l[1:2], int(num(0)))}, nil
	case "len":
		return int64(len(l[0].(*object).words)), nil
	case "get", "put":
		a := l[0].(*object).words
		if num(1) < 0 || num(1) >= int64(len(a)) {
			return nil, exn(1)
		}
		if name == "get" {
			return a[num(1)], nil
		}
		a[num(1)] = l[2]
	case "abort":
		m.ended, m.end = true, api.EndAbort
	}
	return int64(0), nil
}

// run runs code, some roots being kept.
func run(t *testing.T, c api.Code, infos []api.Info, kept map[string]any) (samples.Sample, *machine) {
	t.Helper()
	m := &machine{code: c, kept: kept, roots: map[string]any{}, frames: []running{{fun: &object{}}}}
	for !m.ended {
		if m.step(); m.steps > 1e6 {
			t.Fatal("it does not end")
		}
	}
	s := samples.Sample{Lines: m.lines, End: m.end}
	for _, i := range infos {
		if m.raised != nil && i.Of == "exn" && int64(i.Place) == m.raised.tag {
			s.Text = i.Name
		}
	}
	return s, m
}

func TestSamples(t *testing.T) { // P23.1
	for _, s := range samples.All() {
		c, out := made(t, s.Source)
		got, _ := run(t, c, out.Infos, nil)
		if got.Source = s.Source; !reflect.DeepEqual(got, s) {
			t.Errorf("%s: %v, not %v", s.Source, got, s)
		}
	}
}

func TestExample(t *testing.T) { // P23.1
	c, _ := made(t, "do print \"a\";")
	want := []api.Instr{{Op: api.OpStr, Text: "a"}, {Op: api.OpPrim, Text: "print"}, {Op: api.OpPop}, {Op: api.OpHalt}}
	if len(c.Funs) != 1 || !reflect.DeepEqual(c.Funs[0], want) {
		t.Error(c)
	}
}

func TestRoots(t *testing.T) { // P23.1
	src := "val a = 1; root r : int = (print \"made\"; a + 1); root q : int ref = ref r; do q := !q + 10; do print (itos (r + !q));"
	c, out := made(t, src)
	got, m := run(t, c, out.Infos, nil)
	if !slices.Equal(got.Lines, []string{"made", "14"}) || m.roots["r"] != int64(2) || m.roots["q"].(*object).words[0] != int64(12) {
		t.Error("none is kept", got.Lines)
	}
	got, m = run(t, c, out.Infos, map[string]any{"r": int64(7)})
	if !slices.Equal(got.Lines, []string{"24"}) || m.roots["r"] != int64(7) {
		t.Error("one is kept", got.Lines)
	}
	cell := &object{kind: api.ObjRef, words: []any{int64(100)}}
	got, m = run(t, c, out.Infos, map[string]any{"q": cell})
	if !slices.Equal(got.Lines, []string{"made", "112"}) || m.roots["q"] != cell {
		t.Error("the other one is kept", got.Lines)
	}
	row := m.frames[0].row
	if !slices.Contains(row, any(int64(2))) || !slices.Contains(row, any(cell)) {
		t.Error("what was bound stays in the row")
	}
}

// steps are those of a source that is not looked at by infer.
func num(n int64) api.Core                  { return api.Core{Kind: api.CoreInt, Num: n} }
func of(kind uint8, l ...api.Core) api.Core { return api.Core{Kind: kind, Kids: l} }

func TestDeep(t *testing.T) { // P23.1
	tuple := func(n int) []api.Top {
		return []api.Top{{Kind: api.TopDo, Core: of(api.CoreTuple, slices.Repeat([]api.Core{num(1)}, n)...)}}
	}
	if c, e := gen.Program(tuple(60000)); e != api.OK || code.Check(c) != api.OK {
		t.Errorf("60000 things: %d", e)
	}
	if c, e := gen.Program(tuple(60001)); e != api.ErrDeep || !reflect.DeepEqual(c, api.Code{}) {
		t.Errorf("60001 things: %d", e)
	}
	vals := slices.Repeat([]api.Top{{Kind: api.TopVal, Core: num(1)}}, 60001)
	if _, e := gen.Program(vals[1:]); e != api.OK {
		t.Errorf("60000 names: %d", e)
	}
	if _, e := gen.Program(vals); e != api.ErrDeep {
		t.Errorf("60001 names: %d", e)
	}
	dos := slices.Repeat([]api.Top{{Kind: api.TopDo, Core: num(1)}}, 1<<19)
	if c, e := gen.Program(dos[1:]); e != api.OK || code.Check(c) != api.OK {
		t.Errorf("2^20 - 1 instructions: %d", e)
	}
	if _, e := gen.Program(dos); e != api.ErrDeep {
		t.Errorf("2^20 + 1 instructions: %d", e)
	}
	deep := num(1)
	for range 19990 {
		deep = of(api.CoreLet, num(1), deep)
	}
	lam := num(1)
	for range 9000 {
		lam = of(api.CoreLam, of(api.CoreApp, of(api.CoreLam, lam), num(2)))
	}
	nest := num(1)
	for range 19990 {
		nest = api.Core{Kind: api.CorePrim, Text: "+", Kids: []api.Core{num(1), nest}}
	}
	for i, x := range []api.Core{deep, lam, nest} {
		if c, e := gen.Program([]api.Top{{Kind: api.TopDo, Core: x}}); e != api.OK || code.Check(c) != api.OK {
			t.Errorf("%d: %d", i, e)
		}
	}
	long := strings.Repeat("x", 3*api.MaxSource+5)
	c, e := gen.Program([]api.Top{{Kind: api.TopDo, Core: api.Core{Kind: api.CorePrim, Text: "print", Kids: []api.Core{{Kind: api.CoreStr, Text: long}}}}})
	if e != api.OK || code.Check(c) != api.OK {
		t.Fatal("a long string")
	}
	if s, _ := run(t, c, nil, nil); s.Lines[0] != long {
		t.Error("a long string")
	}
}

func TestAnything(t *testing.T) { // R1
	for kind := range uint8(19) {
		for n := range 4 {
			c := api.Core{Kind: kind, Num: int64(n) - 1, Text: "put", Kids: make([]api.Core, n)}
			for i := range c.Kids {
				c.Kids[i] = api.Core{Kind: kind, Num: 1 << 62, Text: "x"}
			}
			for top := range uint8(6) {
				gen.Program([]api.Top{{Kind: top, Core: c}, {Kind: top, Core: api.Core{Kind: api.CoreLam, Kids: []api.Core{c}}}})
			}
		}
	}
	if c, e := gen.Program(nil); e != api.OK || code.Check(c) != api.OK {
		t.Error("no steps")
	}
}

func TestFew(t *testing.T) { // P23.1: how many instructions a step takes
	src := "fun f a b c d e g h = let val i = a + b; fun k x = x + a + b + c + d + e + g + h + i; in k 1 end; do print (itos (f 1 2 3 4 5 6 7));"
	c, out := made(t, src)
	got, m := run(t, c, out.Infos, nil)
	if !slices.Equal(got.Lines, []string{"32"}) || m.steps > 200 {
		t.Error(got.Lines, m.steps)
	}
}
