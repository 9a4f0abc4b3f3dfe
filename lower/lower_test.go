package lower

import (
	"reflect"
	"slices"
	"strconv"
	"strings"
	"testing"

	"aumbry/api"
	"aumbry/infer"
	"aumbry/print"
	"aumbry/samples"
	"aumbry/syntax"
	"aumbry/token"
)

// lowered are the steps of a source.
func lowered(t *testing.T, src string) ([]api.Top, infer.Out) {
	t.Helper()
	l, _, e := token.Scan([]byte(src))
	if e != api.OK {
		t.Fatalf("%s: %d", src, e)
	}
	p, at, e := syntax.Parse(l)
	if e != api.OK {
		t.Fatalf("%s: %d at %d", src, e, at)
	}
	out, at, e := infer.Program(p)
	if e != api.OK {
		t.Fatalf("%s: %d at %d", src, e, at)
	}
	tops := Program(p, out.Infos, out.Roots)
	shape(t, src, tops, out.Roots)
	return tops, out
}

// shape asks whether steps are as P21.3 says.
func shape(t *testing.T, src string, tops []api.Top, roots []api.Stamped) {
	t.Helper()
	bound := 0
	var got []api.Stamped
	for _, top := range tops {
		switch top.Kind {
		case api.TopFun:
			bound += len(top.Core.Kids)
			if top.Core.Kind != api.CoreRec || len(top.Core.Kids) == 0 {
				t.Fatalf("%s: a TopFun", src)
			}
			for _, k := range top.Core.Kids {
				if k.Kind != api.CoreLam {
					t.Fatalf("%s: a function of a TopFun", src)
				}
				core(t, src, k, bound)
			}
			continue
		case api.TopRoot:
			got = append(got, api.Stamped{Name: top.Name, Stamp: top.Stamp})
		}
		core(t, src, top.Core, bound)
		if top.Kind != api.TopDo {
			bound++
		}
	}
	if !slices.Equal(got, roots) {
		t.Errorf("%s: roots %v", src, got)
	}
}

// core asks whether a Core is right, so many things being bound.
func core(t *testing.T, src string, c api.Core, bound int) {
	t.Helper()
	kids := map[uint8]int{api.CoreInt: 0, api.CoreStr: 0, api.CoreVar: 0, api.CoreLam: 1, api.CoreApp: 2, api.CoreLet: 2, api.CoreIf: 3, api.CoreField: 1, api.CoreIs: 1, api.CorePay: 1, api.CoreRaise: 1, api.CoreHandle: 2}
	n, ok := kids[c.Kind]
	switch {
	case ok && n != len(c.Kids), c.Kind == api.CoreVar && (c.Num < 0 || c.Num >= int64(bound)), c.Kind == api.CoreTuple && len(c.Kids) < 2, (c.Kind == api.CoreCon || c.Kind == api.CoreExn) && len(c.Kids) > 1, c.Kind == api.CoreRec && len(c.Kids) < 2:
		t.Fatalf("%s: %v", src, c)
	case c.Kind == api.CorePrim:
		want := 1
		switch c.Text {
		case "put":
			want = 3
		case "same", "array", "get", "+", "-", "*", "div", "mod", "<", "<=", ">", ">=", "=", "<>", "^", ":=":
			want = 2
		}
		if len(c.Kids) != want {
			t.Fatalf("%s: %s of %d", src, c.Text, len(c.Kids))
		}
	case c.Kind == api.CoreRec:
		for i, k := range c.Kids {
			if i < len(c.Kids)-1 && k.Kind != api.CoreLam {
				t.Fatalf("%s: a CoreRec", src)
			}
			core(t, src, k, bound+len(c.Kids)-1)
		}
		return
	}
	for i, k := range c.Kids {
		more := 0
		if c.Kind == api.CoreLam || i == 1 && (c.Kind == api.CoreLet || c.Kind == api.CoreHandle) {
			more = 1
		}
		core(t, src, k, bound+more)
	}
}

// The things of a run: int64, string, and these.
type (
	parts  struct{ l []any } // a tuple
	tagged struct {          // a constructor or an exception
		exn   bool
		place int64
		has   []any
	}
	cells  struct{ l []any } // a cell or an array
	lambda struct {
		body api.Core
		in   *bound
	}
	bound struct {
		thing any
		ahead *bound
	}
	thrown struct{ what tagged }
	ended  struct{}
)

// machine does steps.
type machine struct {
	lines []string
	steps int
	kept  map[string]any
}

func raise(place int64) any { panic(thrown{tagged{exn: true, place: place}}) }

func (m *machine) all(l []api.Core, in *bound) []any {
	var things []any
	for _, c := range l {
		things = append(things, m.eval(c, in))
	}
	return things
}

func (m *machine) eval(c api.Core, in *bound) any {
	m.steps++
	switch c.Kind {
	case api.CoreInt:
		return c.Num
	case api.CoreStr:
		return c.Text
	case api.CoreVar:
		for range c.Num {
			in = in.ahead
		}
		return in.thing
	case api.CoreLam:
		return lambda{c.Kids[0], in}
	case api.CoreApp:
		f, x := m.eval(c.Kids[0], in).(lambda), m.eval(c.Kids[1], in)
		return m.eval(f.body, &bound{x, f.in})
	case api.CoreLet:
		return m.eval(c.Kids[1], &bound{m.eval(c.Kids[0], in), in})
	case api.CoreRec:
		return m.eval(c.Kids[len(c.Kids)-1], rec(c.Kids[:len(c.Kids)-1], in))
	case api.CoreIf:
		if m.eval(c.Kids[0], in).(tagged).place == 1 {
			return m.eval(c.Kids[1], in)
		}
		return m.eval(c.Kids[2], in)
	case api.CoreTuple:
		return parts{m.all(c.Kids, in)}
	case api.CoreField:
		return m.eval(c.Kids[0], in).(parts).l[c.Num]
	case api.CoreCon, api.CoreExn:
		return tagged{c.Kind == api.CoreExn, c.Num, m.all(c.Kids, in)}
	case api.CoreIs:
		return truth(m.eval(c.Kids[0], in).(tagged).place == c.Num)
	case api.CorePay:
		return m.eval(c.Kids[0], in).(tagged).has[0]
	case api.CorePrim:
		return m.prim(c.Text, m.all(c.Kids, in))
	case api.CoreRaise:
		panic(thrown{m.eval(c.Kids[0], in).(tagged)})
	case api.CoreHandle:
		return m.handle(c, in)
	}
	panic("no Core")
}

func (m *machine) handle(c api.Core, in *bound) (got any) {
	defer func() {
		if r := recover(); r != nil {
			x, ok := r.(thrown)
			if !ok {
				panic(r)
			}
			got = m.eval(c.Kids[1], &bound{x.what, in})
		}
	}()
	return m.eval(c.Kids[0], in)
}

func rec(l []api.Core, in *bound) *bound {
	nodes := make([]bound, len(l))
	for i := range l {
		nodes[i].ahead = in
		in = &nodes[i]
	}
	for i, c := range l {
		nodes[i].thing = lambda{c.Kids[0], in}
	}
	return in
}

func truth(b bool) any {
	if b {
		return tagged{place: 1}
	}
	return tagged{}
}

func wrap(x int64) any { return x << 1 >> 1 }

func (m *machine) prim(name string, l []any) any {
	num := func(i int) int64 { return l[i].(int64) }
	switch name {
	case "+":
		return wrap(num(0) + num(1))
	case "-":
		return wrap(num(0) - num(1))
	case "*":
		return wrap(num(0) * num(1))
	case "div", "mod":
		if num(1) == 0 {
			return raise(0)
		}
		if name == "div" {
			return wrap(num(0) / num(1))
		}
		return wrap(num(0) % num(1))
	case "~":
		return wrap(-num(0))
	case "<":
		return truth(num(0) < num(1))
	case "<=":
		return truth(num(0) <= num(1))
	case ">":
		return truth(num(0) > num(1))
	case ">=":
		return truth(num(0) >= num(1))
	case "=":
		return truth(num(0) == num(1))
	case "<>":
		return truth(num(0) != num(1))
	case "^":
		return l[0].(string) + l[1].(string)
	case "not":
		return truth(l[0].(tagged).place == 0)
	case "print":
		m.lines = append(m.lines, l[0].(string))
	case "itos":
		return strings.Replace(strconv.FormatInt(num(0), 10), "-", "~", 1)
	case "size":
		return int64(len(l[0].(string)))
	case "same":
		return truth(l[0] == l[1])
	case "ref":
		return &cells{l}
	case "!":
		return l[0].(*cells).l[0]
	case ":=":
		l[0].(*cells).l[0] = l[1]
	case "array":
		if num(0) < 0 || num(0) > 1000 {
			return raise(2)
		}
		return &cells{slices.Repeat([]any{l[1]}, int(num(0)))}
	case "len":
		return int64(len(l[0].(*cells).l))
	case "get", "put":
		a := l[0].(*cells).l
		if num(1) < 0 || num(1) >= int64(len(a)) {
			return raise(1)
		}
		if name == "get" {
			return a[num(1)]
		}
		a[num(1)] = l[2]
	case "abort":
		panic(ended{})
	}
	return int64(0)
}

// run does steps, and tells what came of them.
func run(tops []api.Top, infos []api.Info) (s samples.Sample, steps int) {
	m := &machine{}
	s.End = api.EndDone
	defer func() {
		s.Lines, steps = m.lines, m.steps
		switch r := recover().(type) {
		case nil:
		case thrown:
			s.End = api.EndRaised
			for _, i := range infos {
				if i.Of == "exn" && int64(i.Place) == r.what.place {
					s.Text = i.Name
				}
			}
		case ended:
			s.End = api.EndAbort
		default:
			panic(r)
		}
	}()
	var in *bound
	for _, top := range tops {
		if top.Kind == api.TopFun {
			in = rec(top.Core.Kids, in)
			continue
		}
		x := m.eval(top.Core, in)
		if top.Kind != api.TopDo {
			in = &bound{x, in}
		}
	}
	return s, 0
}

func TestSamples(t *testing.T) { // P21.1, P21.2, P21.3
	for _, s := range samples.All() {
		tops, out := lowered(t, s.Source)
		got, _ := run(tops, out.Infos)
		if got.Source = s.Source; !reflect.DeepEqual(got, s) {
			t.Errorf("%s: %v, not %v", s.Source, got, s)
		}
	}
}

func TestExample(t *testing.T) { // P21.1
	tops, _ := lowered(t, "val x = 3; do print (itos x);")
	x := api.Core{Kind: api.CoreVar}
	want := []api.Top{{Kind: api.TopVal, Core: number(3)}, {Kind: api.TopDo, Core: prim("print", prim("itos", x))}}
	if !reflect.DeepEqual(tops, want) {
		t.Error(tops)
	}
	tops, _ = lowered(t, "root r : int = 1; fun f x = x and g y = y; datatype t = A; exception E; val a = A;")
	var kinds []uint8
	for _, top := range tops {
		kinds = append(kinds, top.Kind)
	}
	if !slices.Equal(kinds, []uint8{api.TopRoot, api.TopFun, api.TopVal}) || tops[0].Name != "r" || tops[0].Stamp != "int" {
		t.Error(tops)
	}
}

// fitsValue says whether a pattern takes a value, and what its variables are.
func fitsValue(p, v api.Pat, vars map[string]int64) bool {
	switch p.Kind {
	case api.PatAny:
		return true
	case api.PatVar:
		vars[p.Name] = v.Num
		return true
	}
	if p.Kind != v.Kind || p.Name != v.Name || p.Num != v.Num {
		return false
	}
	for i := range p.Kids {
		if !fitsValue(p.Kids[i], v.Kids[i], vars) {
			return false
		}
	}
	return true
}

// TestCases holds cases against the first pattern that fits, for all values of a small type.
func TestCases(t *testing.T) { // P21.2
	seed := uint32(11)
	next := func(n int) int { seed = seed*1664525 + 1013904223; return int(seed>>8) % n }
	vars := 0
	con := func(s string, l ...api.Pat) api.Pat { return api.Pat{Kind: api.PatCon, Name: s, Kids: l} }
	num := func() api.Pat {
		switch next(4) {
		case 0:
			vars++
			return api.Pat{Kind: api.PatVar, Name: "v" + strconv.Itoa(vars)}
		case 1:
			return api.Pat{Kind: api.PatAny}
		}
		return api.Pat{Kind: api.PatInt, Num: int64(next(3)) - 1}
	}
	var made func(deep int) api.Pat
	made = func(deep int) api.Pat {
		switch k := next(5); {
		case k == 0 || deep == 0:
			return api.Pat{Kind: api.PatAny}
		case k == 1:
			return con("A")
		case k == 2:
			return con("B", num())
		}
		return con("C", api.Pat{Kind: api.PatTuple, Kids: []api.Pat{made(deep - 1), made(deep - 1)}})
	}
	values := []api.Pat{con("A")}
	for i := range int64(3) {
		values = append(values, con("B", api.Pat{Kind: api.PatInt, Num: i - 1}))
	}
	for _, a := range values[:4:4] {
		for _, b := range values[:4:4] {
			values = append(values, con("C", api.Pat{Kind: api.PatTuple, Kids: []api.Pat{a, b}}))
		}
	}
	tried := 0
	for range 600 {
		var pats []api.Pat
		src := "datatype t = A | B of int | C of t * t; fun f v = case v of "
		for i := range 1 + next(6) {
			vars = 0
			p := made(3)
			pats = append(pats, p)
			src += print.Pat(p) + " => \"" + strconv.Itoa(i) + "\""
			for k := range vars {
				src += " ^ \",\" ^ itos v" + strconv.Itoa(k+1)
			}
			src += " | "
		}
		src += "_ => \"else\"; "
		var want []string
		for _, v := range values {
			src += "do print (f " + strings.Replace(print.Pat(con("X", v)), "X ", "", 1) + ");"
			line := "else"
			for i, p := range pats {
				got := map[string]int64{}
				if !fitsValue(p, v, got) {
					continue
				}
				line = strconv.Itoa(i)
				for k := range len(got) {
					line += "," + strings.Replace(strconv.FormatInt(got["v"+strconv.Itoa(k+1)], 10), "-", "~", 1)
				}
				break
			}
			want = append(want, line)
		}
		l, _, _ := token.Scan([]byte(src))
		p, _, e := syntax.Parse(l)
		if e != api.OK {
			t.Fatal(src)
		}
		if _, _, e := infer.Program(p); e != api.OK {
			continue // a pattern is of no use
		}
		tried++
		tops, out := lowered(t, src)
		if got, _ := run(tops, out.Infos); !slices.Equal(got.Lines, want) {
			t.Fatalf("%s: %v, not %v", src, got.Lines, want)
		}
	}
	if tried < 100 {
		t.Error("too few were tried:", tried)
	}
}

func TestSteps(t *testing.T) { // P21.1: how many steps are taken
	src := "fun f x = case x of "
	for i := range 198 {
		src += strconv.Itoa(i) + " => " + strconv.Itoa(i*3) + " | "
	}
	tops, out := lowered(t, src+"_ => ~1; do f 1000;")
	if _, steps := run(tops, out.Infos); steps > 2*(2000+len(src)) {
		t.Errorf("%d steps", steps)
	}
}

// height is how deep a Core is.
func height(c api.Core) int {
	most := 0
	for _, k := range c.Kids {
		most = max(most, height(k))
	}
	return 1 + most
}

func TestDeep(t *testing.T) { // what chapter 23 asks: at most 20000 deep
	for _, src := range []string{
		"do let " + strings.Repeat("do 1;", 3200) + " in 1 end;",
		"do let " + strings.Repeat("val a=1;", 2000) + " in 1 end;",
		"do let " + strings.Repeat("fun f x=x;", 1600) + " in 1 end;",
		"do " + strings.Repeat("(fn x=>", 95) + "1" + strings.Repeat(")", 95) + ";",
	} {
		if len(src) > api.MaxSource {
			t.Fatal(len(src))
		}
		tops, out := lowered(t, src)
		if h := height(tops[0].Core); h > 20000 {
			t.Errorf("%d deep", h)
		}
		run(tops, out.Infos)
	}
}

func TestAnything(t *testing.T) { // R1
	for kind := range uint8(20) {
		for n := range 4 {
			pat := api.Pat{Kind: kind, Name: "print", Kids: make([]api.Pat, n)}
			rules := make([]api.Rule, n)
			for i := range rules {
				rules[i].Pat = pat
			}
			e := api.Exp{Kind: kind, Name: "put", Kids: make([]api.Exp, n), Rules: rules, Decs: []api.Dec{{Kind: kind, Funs: make([]api.Fun, n)}}}
			f := api.Exp{Kind: api.ExpApp, Kids: []api.Exp{{Kind: api.ExpVar, Name: "put"}, e}}
			for dec := range uint8(9) {
				Program([]api.Dec{{Kind: dec, Exp: e, Funs: make([]api.Fun, n)}, {Kind: dec, Exp: f}}, nil, nil)
			}
		}
	}
	if len(Program(nil, nil, nil)) != 0 {
		t.Error("nothing")
	}
}
