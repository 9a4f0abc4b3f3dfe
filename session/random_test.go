package session

import (
	"reflect"
	"slices"
	"strconv"
	"strings"
	"testing"

	"aumbry/api"
	"aumbry/print"
	"aumbry/syntax"
	"aumbry/token"
)

// The things of the straight way to run a program, by its tree.
type (
	tuple   []any
	variant struct {
		name string
		has  any
	}
	cells  struct{ l []any }
	lambda func(any) any
	thrown struct{ what variant }
	over   struct{}
	names  struct {
		name  string
		thing any
		ahead *names
	}
)

// straight runs a program by its tree, as chapter 21 says.
type straight struct {
	lines []string
	steps int
}

func (n *names) find(name string) any {
	for ; n != nil; n = n.ahead {
		if n.name == name {
			return n.thing
		}
	}
	panic("no name " + name)
}

func raise(name string) any { panic(thrown{variant{name: name}}) }

func truth(b bool) any {
	if b {
		return variant{name: "true"}
	}
	return variant{name: "false"}
}

func (s *straight) all(l []api.Exp, in *names) tuple {
	var t tuple
	for _, e := range l {
		t = append(t, s.exp(e, in))
	}
	return t
}

func (s *straight) decs(l []api.Dec, in *names) *names {
	for _, d := range l {
		switch d.Kind {
		case api.DecVal, api.DecRoot:
			in = &names{d.Name, s.exp(d.Exp, in), in}
		case api.DecDo:
			s.exp(d.Exp, in)
		case api.DecFun:
			var nodes []*names
			for _, f := range d.Funs {
				in = &names{f.Name, nil, in}
				nodes = append(nodes, in)
			}
			for i, f := range d.Funs {
				nodes[i].thing = s.fun(f.Args, f.Exp, in)
			}
		}
	}
	return in
}

func (s *straight) fun(args []string, body api.Exp, in *names) any {
	if len(args) == 0 {
		return s.exp(body, in)
	}
	return lambda(func(x any) any { return s.fun(args[1:], body, &names{args[0], x, in}) })
}

func (s *straight) exp(e api.Exp, in *names) any {
	if s.steps++; s.steps > 200000 {
		panic("too long")
	}
	kid := func(i int) any { return s.exp(e.Kids[i], in) }
	switch e.Kind {
	case api.ExpVar:
		return in.find(e.Name)
	case api.ExpCon:
		if e.Name[0] == 'W' || e.Name == "Cons" {
			return lambda(func(x any) any { return variant{e.Name, x} })
		}
		return variant{name: e.Name}
	case api.ExpInt:
		return e.Num
	case api.ExpStr:
		return e.Text
	case api.ExpUnit:
		return int64(0)
	case api.ExpTuple:
		return s.all(e.Kids, in)
	case api.ExpFn:
		return s.fun([]string{e.Name}, e.Kids[0], in)
	case api.ExpApp:
		f := kid(0).(lambda)
		return f(kid(1))
	case api.ExpIf:
		if kid(0).(variant).name == "true" {
			return kid(1)
		}
		return kid(2)
	case api.ExpLet:
		return s.exp(e.Kids[0], s.decs(e.Decs, in))
	case api.ExpCase:
		got, ok := s.rules(e.Rules, kid(0), in)
		if !ok {
			panic("no rule fits")
		}
		return got
	case api.ExpHandle:
		return s.handle(e, in)
	case api.ExpRaise:
		panic(thrown{kid(0).(variant)})
	case api.ExpSeq:
		kid(0)
		return kid(1)
	}
	return s.op(e.Name, s.all(e.Kids, in))
}

func (s *straight) handle(e api.Exp, in *names) (got any) {
	defer func() {
		if r := recover(); r != nil {
			x, ok := r.(thrown)
			if !ok {
				panic(r)
			}
			if got, ok = s.rules(e.Rules, x.what, in); !ok {
				panic(r)
			}
		}
	}()
	return s.exp(e.Kids[0], in)
}

func (s *straight) rules(l []api.Rule, x any, in *names) (any, bool) {
	for _, r := range l {
		if to, ok := fits(r.Pat, x, in); ok {
			return s.exp(r.Exp, to), true
		}
	}
	return nil, false
}

func fits(p api.Pat, x any, in *names) (*names, bool) {
	ok := true
	switch p.Kind {
	case api.PatVar:
		return &names{p.Name, x, in}, true
	case api.PatInt:
		return in, x == p.Num
	case api.PatTuple:
		for i, k := range p.Kids {
			if in, ok = fits(k, x.(tuple)[i], in); !ok {
				return nil, false
			}
		}
	case api.PatCon:
		if x.(variant).name != p.Name {
			return nil, false
		}
		if len(p.Kids) > 0 {
			return fits(p.Kids[0], x.(variant).has, in)
		}
	}
	return in, true
}

func around(n int64) any { return n << 1 >> 1 }

func (s *straight) op(name string, l tuple) any {
	if len(l) == 1 {
		if name == "!" {
			return l[0].(*cells).l[0]
		}
		return around(-l[0].(int64))
	}
	if name == "^" {
		return l[0].(string) + l[1].(string)
	}
	if name == ":=" {
		l[0].(*cells).l[0] = l[1]
		return int64(0)
	}
	a, b := l[0].(int64), l[1].(int64)
	if b == 0 && (name == "div" || name == "mod") {
		return raise("Div")
	}
	switch name {
	case "+":
		return around(a + b)
	case "-":
		return around(a - b)
	case "*":
		return around(a * b)
	case "div":
		return around(a / b)
	case "mod":
		return around(a % b)
	case "<":
		return truth(a < b)
	case "<=":
		return truth(a <= b)
	case ">":
		return truth(a > b)
	case ">=":
		return truth(a >= b)
	case "=":
		return truth(a == b)
	}
	return truth(a != b)
}

// ahead are the names that are bound ahead of a program.
func (s *straight) ahead() *names {
	place := func(x any) (*cells, int64) {
		t := x.(tuple)
		a, i := t[0].(*cells), t[1].(int64)
		if i < 0 || i >= int64(len(a.l)) {
			raise("Subscript")
		}
		return a, i
	}
	var in *names
	for name, f := range map[string]lambda{
		"print": func(x any) any { s.lines = append(s.lines, x.(string)); return int64(0) },
		"itos":  func(x any) any { return strings.Replace(strconv.FormatInt(x.(int64), 10), "-", "~", 1) },
		"size":  func(x any) any { return int64(len(x.(string))) },
		"same":  func(x any) any { return truth(x.(tuple)[0] == x.(tuple)[1]) },
		"not":   func(x any) any { return truth(x.(variant).name == "false") },
		"ref":   func(x any) any { return &cells{[]any{x}} },
		"len":   func(x any) any { return int64(len(x.(*cells).l)) },
		"array": func(x any) any {
			n := x.(tuple)[0].(int64)
			if n < 0 || n > 1000 {
				return raise("Size")
			}
			return &cells{slices.Repeat([]any{x.(tuple)[1]}, int(n))}
		},
		"get":    func(x any) any { a, i := place(x); return a.l[i] },
		"put":    func(x any) any { a, i := place(x); a.l[i] = x.(tuple)[2]; return int64(0) },
		"commit": func(x any) any { return int64(0) },
		"abort":  func(x any) any { panic(over{}) },
	} {
		in = &names{name, f, in}
	}
	return in
}

// run runs a program the straight way.
func (s *straight) run(p []api.Dec) (r api.Result) {
	r.End = api.EndDone
	defer func() {
		r.Lines = s.lines
		switch x := recover().(type) {
		case nil:
		case thrown:
			r.End, r.Text = api.EndRaised, x.what.name
		case over:
			r.End = api.EndAbort
		default:
			panic(x)
		}
	}()
	s.decs(p, s.ahead())
	return r
}

// The types of what is made up.
const (
	aNumber = iota
	aTruth
	aText
	aUnit
	aCell  // of a number
	aRow   // of numbers
	aList  // of numbers
	aShape // datatype shape = P | Wn of int | Wb of shape * bool
	aFun   // number to number
	aPair  // number and shape
	types
)

// writer makes programs up.
type writer struct {
	seed  uint32
	count int
	bound [types][]string
}

func (w *writer) next(n int) int {
	w.seed = w.seed*1664525 + 1013904223
	return int(w.seed>>9) % n
}

func (w *writer) pick(l ...string) string { return l[w.next(len(l))] }

// name is a new name, or one that there is, to be hidden.
func (w *writer) name() string {
	if w.next(4) == 0 {
		return w.pick("x", "y", "z", "k")
	}
	w.count++
	return "v" + strconv.Itoa(w.count)
}

// hiding is what is made up while those of a name are hidden.
func (w *writer) hiding(name string, make func() string) string {
	saved := w.bound
	for i := range w.bound {
		w.bound[i] = slices.DeleteFunc(slices.Clone(w.bound[i]), func(s string) bool { return s == name })
	}
	out := make()
	w.bound = saved
	return out
}

// with is what is made up while a name is bound, and hides those of its name.
func (w *writer) with(name string, ty int, make func() string) string {
	return w.hiding(name, func() string {
		w.bound[ty] = append(w.bound[ty], name)
		return make()
	})
}

// exp makes up an expression of a type.
func (w *writer) exp(ty, deep int) string {
	if l := w.bound[ty]; len(l) > 0 && w.next(3) == 0 {
		return l[w.next(len(l))]
	}
	sub := func(t int) string { return w.exp(t, deep-1) }
	if deep > 0 {
		switch w.next(14) {
		case 0:
			return "(if " + sub(aTruth) + " then " + sub(ty) + " else " + sub(ty) + ")"
		case 1, 2:
			t, n := w.next(types), w.name()
			return "let val " + n + " = " + sub(t) + "; in " + w.with(n, t, func() string { return sub(ty) }) + " end"
		case 3:
			return "(" + sub(w.next(types)) + "; " + sub(ty) + ")"
		case 4:
			n := w.name()
			return "(" + sub(ty) + " handle Div => " + sub(ty) + " | WE " + n + " => " + w.with(n, aNumber, func() string { return sub(ty) }) + w.pick("", " | _ => "+sub(ty)) + ")"
		case 5:
			return "(case " + sub(aList) + " of Nil => " + sub(ty) + w.listRule(ty, deep) + ")"
		case 6:
			return w.shapes(ty, deep)
		case 7:
			if w.next(3) == 0 {
				return "(raise " + w.pick("Div", "WE "+w.exp(aNumber, 0), "F", "Subscript") + ")"
			}
		case 8:
			n, m := w.name(), w.name()
			if n != m {
				return "let fun " + n + " " + m + " = if " + m + " <= 0 then " +
					w.hiding(n, func() string { return w.with(m, aNumber, func() string { return sub(aNumber) }) }) +
					" else 1 + " + n + " (" + m + " - 1); in " + w.hiding(n, func() string { return sub(ty) }) + " end"
			}
		case 9:
			n, m := w.name(), w.name()
			if n != m {
				return "(case " + sub(aPair) + " of (" + n + ", " + m + ") => " + w.with(n, aNumber, func() string { return w.with(m, aShape, func() string { return sub(ty) }) }) + ")"
			}
		}
	}
	return w.own(ty, deep)
}

// listRule is a rule for a list that has something.
func (w *writer) listRule(ty, deep int) string {
	n, m := w.name(), w.name()
	if n == m {
		return " | Cons _ => " + w.exp(ty, deep-1)
	}
	return " | Cons (" + n + ", " + m + ") => " + w.with(n, aNumber, func() string { return w.with(m, aList, func() string { return w.exp(ty, deep-1) }) })
}

// shapes is a case over a shape.
func (w *writer) shapes(ty, deep int) string {
	sub := func() string { return w.exp(ty, deep-1) }
	n := w.name()
	one := func(t int) string { return w.with(n, t, sub) }
	out := "(case " + w.exp(aShape, deep-1) + " of "
	out += w.pick("", "Wb (P, true) => "+sub()+" | ", "Wn 0 => "+sub()+" | Wn ~3 => "+sub()+" | ", "Wb (Wn "+n+", false) => "+one(aNumber)+" | Wb (Wb (P, _), true) => "+sub()+" | ", "Wb (Wn 1, _) => "+sub()+" | Wb (_, true) => "+sub()+" | ")
	return out + w.pick("P => "+sub()+" | Wn "+n+" => "+one(aNumber)+" | Wb ("+n+", _) => "+one(aShape), "Wn "+n+" => "+one(aNumber)+" | "+n+" => "+one(aShape), "_ => "+sub()) + ")"
}

// own is an expression that makes a thing of a type.
func (w *writer) own(ty, deep int) string {
	sub := func(t int) string { return w.exp(t, max(deep-1, 0)) }
	least := deep <= 0
	switch ty {
	case aNumber:
		if least {
			return w.pick("0", "1", "~3", "7", "4611686018427387903", "2")
		}
		return w.pick("("+sub(aNumber)+" "+w.pick("+", "-", "*", "div", "mod")+" "+sub(aNumber)+")", "(~"+sub(aNumber)+")", "(size ("+sub(aText)+"))", "(!"+sub(aCell)+")", "(get ("+sub(aRow)+", "+sub(aNumber)+"))", "(("+sub(aFun)+") ("+sub(aNumber)+"))", "(len "+sub(aRow)+")")
	case aTruth:
		if least {
			return w.pick("true", "false")
		}
		return w.pick("("+sub(aNumber)+" "+w.pick("<", "<=", ">", ">=", "=", "<>")+" "+sub(aNumber)+")", "(not ("+sub(aTruth)+"))", "(same ("+sub(aText)+", "+sub(aText)+"))")
	case aText:
		if least {
			return w.pick("\"\"", "\"a\"", "\"b\\n\"")
		}
		return w.pick("(itos ("+sub(aNumber)+"))", "("+sub(aText)+" ^ "+sub(aText)+")")
	case aUnit:
		if least {
			return "()"
		}
		return w.pick("(print ("+sub(aText)+"))", "("+sub(aCell)+" := "+sub(aNumber)+")", "(put ("+sub(aRow)+", "+sub(aNumber)+", "+sub(aNumber)+"))", "(print (itos ("+sub(aNumber)+")))", "(commit "+sub(aUnit)+")")
	case aCell:
		return "(ref (" + sub(aNumber) + "))"
	case aRow:
		return "(array (" + w.pick("3", "1", "0", sub(aNumber)) + ", " + sub(aNumber) + "))"
	case aList:
		if least {
			return "Nil"
		}
		return "(Cons (" + sub(aNumber) + ", " + sub(aList) + "))"
	case aShape:
		if least {
			return w.pick("P", "(Wn 0)", "(Wb (P, true))")
		}
		return w.pick("(Wn ("+sub(aNumber)+"))", "(Wb ("+sub(aShape)+", "+sub(aTruth)+"))")
	case aFun:
		n := w.name()
		return "(fn " + n + " => " + w.with(n, aNumber, func() string { return sub(aNumber) }) + ")"
	}
	return "(" + sub(aNumber) + ", " + sub(aShape) + ")"
}

// caught is an expression that is seldom left by what is raised in it.
func (w *writer) caught(ty, deep int) string {
	if w.next(12) == 0 {
		return w.exp(ty, deep)
	}
	return "(" + w.exp(ty, deep) + " handle _ => " + w.own(ty, 0) + ")"
}

// program makes up a program.
func (w *writer) program() string {
	out := "datatype 'a list = Nil | Cons of 'a * 'a list; datatype shape = P | Wn of int | Wb of shape * bool; exception WE of int; exception F; "
	stamps := map[int]string{aNumber: "int", aText: "string", aCell: "int ref", aRow: "int array", aList: "int list", aShape: "shape", aPair: "int * shape"}
	for i := range 3 + w.next(6) {
		t := w.next(types)
		n := "g" + strconv.Itoa(i)
		switch stamp, ok := stamps[t]; {
		case ok && w.next(3) == 0:
			out += "root " + n + " : " + stamp + " = " + w.caught(t, 4) + "; "
		case w.next(2) == 0:
			out += "val " + n + " = " + w.caught(t, 4) + "; "
		default:
			out += "do " + w.caught(aUnit, 5) + "; "
			continue
		}
		w.bound[t] = append(w.bound[t], n)
	}
	for _, n := range w.bound[aShape] {
		out += "fun show s = case s of P => \"p\" | Wn n => itos n | Wb (s, b) => show s ^ (if b then \"t\" else \"f\"); do print (show " + n + "); "
	}
	for _, n := range w.bound[aCell] {
		out += "do print (itos (!" + n + ")); "
	}
	return out + "do print (itos (" + w.caught(aNumber, 3) + "));"
}

// TestMadeUp runs programs that are made up, and holds what they print against the straight way.
func TestMadeUp(t *testing.T) { // W1, P21.1, P21.2, P23.1, P25.5, P27.5
	ran := 0
	for seed := range uint32(900) {
		w := &writer{seed: seed * 7919}
		src := w.program()
		if len(src) > api.MaxSource {
			continue
		}
		l, _, e := token.Scan([]byte(src))
		if e != api.OK {
			t.Fatal(src)
		}
		p, at, e := syntax.Parse(l)
		if e != api.OK {
			t.Fatalf("%d at %d: %s", e, at, src)
		}
		d, s := booted(t, 200)
		got := s.Run([]byte(src), api.World{Fuel: 1 << 21, Memory: 1 << 18})
		if ran++; got.End == api.EndFront {
			t.Fatalf("seed %d: %d: %s", seed, got.Err, src)
		}
		want := (&straight{}).run(p)
		if got.End != want.End || got.Text != want.Text || !slices.Equal(got.Lines, want.Lines) {
			t.Fatalf("seed %d: %s\n%v, not %v", seed, src, got, want)
		}
		acts := []api.Act{{After: int(seed % 50), Kind: api.ActCollect, N: 1 + int(seed%9)}, {After: int(seed % 90), Kind: api.ActEvict, N: int(seed)}, {After: int(seed % 90), Kind: api.ActCollect, N: 100}}
		d, s = booted(t, 200)
		tight := s.Run([]byte(src), api.World{Fuel: 1 << 21, Memory: 20 + int(seed%400), Acts: acts})
		if n := len(tight.Lines); tight.End == api.EndMemory && n <= len(want.Lines) {
			want.Lines, want.End, want.Text = want.Lines[:n], api.EndMemory, ""
		}
		if tight.End != want.End || !slices.Equal(tight.Lines, want.Lines) {
			t.Fatalf("seed %d, tight: %s\n%v, not %v", seed, src, tight, want)
		}
		again(t, d)
		l, _, _ = token.Scan([]byte(print.Program(p)))
		if q, _, e := syntax.Parse(l); e != api.OK || !reflect.DeepEqual(p, q) {
			t.Fatalf("seed %d: its text is not read as it", seed)
		}
	}
	if ran < 800 {
		t.Error("too few may be run:", ran)
	}
}
